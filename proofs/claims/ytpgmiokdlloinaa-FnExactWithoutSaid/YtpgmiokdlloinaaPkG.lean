/- Several texts in one, in build order: CellT, CellU, ReachS, ReachL, ReachO, InsB, SlB, IterB, Clone, ReachF. -/
import Derived.Test.YtpgmiokdlloinaaPkF
-- CellT: The program's WithNode: for all cells and nodes.
namespace Go.Proofs.Ytpgmiokdlloinaa
set_option maxRecDepth 100000
set_option linter.unusedVariables false
set_option linter.unusedSimpArgs false
open Go.RowKit

theorem nodeBytes_pos (nd : MNode) : (nodeOk nd = true → 0 < (nodeBytes nd).length) ∧ (nodeOk nd = false → nodeBytes nd = []) := by
  refine ⟨fun h => ?_, fun h => by unfold nodeBytes; rw [if_neg (by simp [h])]⟩
  rw [nodeBytes_raw nd h]
  simp [rawBytes]
/-- what adding a node says and leaves. -/
def AddIs (w : World) (p lo : Nat) (R : SR) (ps : List (Int × NV)) (x : NV) (e : Ending) (w' : World) : Prop :=
  (nodeOk x.nd = false ∧ e = .returned (.int .i64 (-1)) ∧ Below w.heap.size w w') ∨
  (nodeOk x.nd = true ∧ hitI (kvs ps) (nameOf (nodeBytes x.nd)) = true ∧ e = .returned (.int .i64 (nameOf (nodeBytes x.nd))) ∧ Below w.heap.size w w') ∨
  (nodeOk x.nd = true ∧ hitI (kvs ps) (nameOf (nodeBytes x.nd)) = false ∧ 80 ≤ ps.length ∧ e = .returned (.int .i64 (-1)) ∧ Below w.heap.size w w') ∨
  (nodeOk x.nd = true ∧ hitI (kvs ps) (nameOf (nodeBytes x.nd)) = false ∧ ps.length < 80 ∧ e = .returned (.int .i64 (nameOf (nodeBytes x.nd))) ∧
    ∃ R', Box w' p 73 #[R'.kv (ps.length + 1), R'.vv (ps.length + 1)] ∧ SLN w' lo R' (insP ps (lowI (kvs ps) (nameOf (nodeBytes x.nd))) (nameOf (nodeBytes x.nd), x)) ∧ Touch (fun g => g = p ∨ R.at_ g) w w')
set_option maxHeartbeats 2000000 in
theorem addNode_any (p lo : Nat) (R : SR) (ps : List (Int × NV)) (x : NV) (w : World) (hx : Box w p 73 #[R.kv ps.length, R.vv ps.length]) (h : SLN w lo R ps) (hlo : lo ≤ w.heap.size)
    (hn : NodeIn w w.heap.size x.v x.nd) (hu : ∀ g, x.use g → ¬ R.at_ g) (hup : ∀ g, x.use g → g ≠ p) (hpp : ∀ y ∈ ps, ∀ g, y.2.use g → g ≠ p) (hl : ps.length ≤ 80) :
    Calls Try.prog 60 #[.pointer (some ⟨p, 0, none⟩), x.v] w (AddIs w p lo R ps x) := by
  have hp := hx.lt
  obtain ⟨Ap, np, cp, Ak, nk, ck, nd⟩ := x
  have hbl : (nodeBytes nd).length ≤ 9223372036854775807 := by
    have h1 := nodeBytes_len nd
    obtain ⟨_, _, _, _, _, _, e, h2, h3, h4, h5, h6⟩ := hn
    have h7 := h5.1
    have h8 := h6.1
    simp only at h1 h4 h7 h8
    omega
  obtain ⟨w1, hw1⟩ : ∃ w1, w.alloc (.cells #[.int .i64 nd.kind, .slice Ap np cp, .slice Ak nk ck, .string nd.val] 32) = w1 := ⟨_, rfl⟩
  have b1 : Below w.heap.size w w1 := hw1 ▸ (Below.refl _ _).alloc (Nat.le_refl _) _
  have X1 := Lib.hid (show Box w1 w.heap.size 32 #[.int .i64 nd.kind, .slice Ap np cp, .slice Ak nk ck, .string nd.val] from hw1 ▸ heap_alloc_new _ _)
  have s1 : w1.heap.size = w.heap.size + 1 := hw1 ▸ by simp
  have B1 := Lib.hid b1
  have P1 := Lib.hid (hx.below b1 hp)
  have H1 := Lib.hid (h.below b1)
  have N1 := Lib.hid (hn.below b1)
  clear hx h hn b1
  have q0 := X1.out.cell 0
  have q1 := X1.out.cell 1
  have q2 := X1.out.cell 2
  have q3 := X1.out.cell 3
  simp at q0 q1 q2 q3
  unfold NV.v
  go_enter Try.func60, Try.ntmps60
  go_wp2_with fail
  clear hw1
  refine (implNodeBytes_any _ nd w.heap.size w1 (by omega) N1.out).mono ?_
  rintro e w2 ⟨A2, n2, c2, rfl, m2, b2⟩
  have hn2 : (nodeBytes nd).length = n2 := m2.len
  have s2 := b2.size
  have B2 := Lib.hid (B1.out.trans (b2.mono (by omega)))
  have BY := Lib.hid m2.byts
  have X2 := Lib.hid (X1.out.below b2 (by omega))
  have P2 := Lib.hid (P1.out.below b2 (by omega))
  have H2 := Lib.hid (H1.out.below b2)
  have N2 := Lib.hid (N1.out.below (b2.mono (by omega)))
  clear m2 b2 q0 q1 q2 q3
  obtain ⟨ok, hok⟩ : ∃ ok, nodeOk nd = ok := ⟨_, rfl⟩
  have OK := Lib.hid hok
  cases ok with
  | false =>
    have h0 : n2 = 0 := by rw [← hn2, (nodeBytes_pos nd).2 hok]; rfl
    subst h0
    clear hok
    go_wp2
    go_ret
    exact .inl ⟨OK.out, rfl, B2.out⟩
  | true =>
    have hn0 : 0 < n2 := by rw [← hn2]; exact (nodeBytes_pos nd).1 hok
    have hne : ¬ ((n2 : Int) = 0) := by omega
    clear hok
    obtain ⟨nm, hnm⟩ : ∃ nm, nameOf (nodeBytes nd) = nm := ⟨_, rfl⟩
    have NM := Lib.hid hnm
    go_wp2_with fail
    refine (name_any A2 n2 c2 (nodeBytes nd) _ w2 (by omega) BY.out).mono ?_
    rintro e w' ⟨rfl, rfl⟩
    rw [hnm]
    clear hnm
    go_wp2_with fail
    refine (at_any p lo R ps nm w2 P2.out H2.out).mono ?_
    rintro e w3 ⟨y, r, rfl, hat, b3⟩
    have s3 := b3.size
    have P3 := Lib.hid (P2.out.below b3 (by omega))
    have X3 := Lib.hid (X2.out.below b3 (by omega))
    have H3 := Lib.hid (H2.out.below b3)
    have N3 := Lib.hid (N2.out.below (b3.mono (by omega)))
    have B3 := Lib.hid (B2.out.trans (b3.mono (by omega)))
    have hr : r = hitI (kvs ps) nm := by
      rcases hat with ⟨h1, h2, _⟩ | ⟨h1, h2, _⟩
      · rw [h1, h2]
      · rw [h1, h2]
    obtain ⟨Ay, ny, cy, Az, nz, cz, ndy⟩ := y
    unfold NV.v
    clear hat b3
    obtain ⟨w4, hw4⟩ : ∃ w4, w3.alloc (.cells #[.int .i64 ndy.kind, .slice Ay ny cy, .slice Az nz cz, .string ndy.val] 32) = w4 := ⟨_, rfl⟩
    have b4 : Below w3.heap.size w3 w4 := hw4 ▸ (Below.refl _ _).alloc (Nat.le_refl _) _
    have P4 := Lib.hid (P3.out.below b4 (by omega))
    have X4 := Lib.hid (X3.out.below b4 (by omega))
    have H4 := Lib.hid (H3.out.below b4)
    have N4 := Lib.hid (N3.out.below (b4.mono (by omega)))
    have B4 := Lib.hid (B3.out.trans (b4.mono (by omega)))
    have s4 := b4.size
    clear b4
    have q0 := P4.out.cell 0
    have q20 := X4.out.cell 0
    have q21 := X4.out.cell 1
    have q22 := X4.out.cell 2
    have q23 := X4.out.cell 3
    unfold SR.kv at q0
    simp at q0 q20 q21 q22 q23
    have HR := Lib.hid hr
    by_cases h80 : 80 ≤ ps.length
    · have hd : decide ((80 : Int) ≤ (ps.length : Int)) = true := decide_eq_true (by omega)
      cases r with
      | false =>
        clear hr
        go_wp2
        go_ret
        exact .inr (.inr (.inl ⟨OK.out, by rw [NM.out]; exact HR.out.symm, h80, rfl, B4.out⟩))
      | true =>
        clear hr
        go_wp2_with fail
        clear hw4
        refine (put_any p lo R ps nm ⟨Ap, np, cp, Ak, nk, ck, nd⟩ w4 P4.out H4.out (by omega) (N4.out.more (by omega)) hu hup hpp (by omega)).mono ?_
        rintro e w5 (⟨h5, rfl, b5⟩ | ⟨h5, rfl, R', p5, l5, _, t5⟩)
        · have B5 := Lib.hid (B4.out.trans (b5.mono (by omega)))
          have H5 := Lib.hid h5
          clear b5 h5
          go_wp2
          go_ret
          exact .inr (.inl ⟨OK.out, by rw [NM.out]; exact H5.out, by first | (rw [NM.out]; done) | (rw [NM.out]; rfl), B5.out⟩)
        · exact absurd (HR.out.trans h5) (by simp)
    · have hd : decide ((80 : Int) ≤ (ps.length : Int)) = false := decide_eq_false (by omega)
      cases r with
      | false =>
        clear hr
        go_wp2_with fail
        clear hw4
        refine (put_any p lo R ps nm ⟨Ap, np, cp, Ak, nk, ck, nd⟩ w4 P4.out H4.out (by omega) (N4.out.more (by omega)) hu hup hpp (by omega)).mono ?_
        rintro e w5 (⟨h5, rfl, b5⟩ | ⟨h5, rfl, R', p5, l5, _, t5⟩)
        · have B5 := Lib.hid (B4.out.trans (b5.mono (by omega)))
          have H5 := Lib.hid h5
          clear b5 h5
          go_wp2
          go_ret
          exact .inr (.inl ⟨OK.out, by rw [NM.out]; exact H5.out, by first | (rw [NM.out]; done) | (rw [NM.out]; rfl), B5.out⟩)
        · have H5 := Lib.hid h5
          have P5 := Lib.hid p5
          have L5 := Lib.hid l5
          have T5 := Lib.hid (show Touch (fun g => g = p ∨ R.at_ g) w w5 from (Touch.of_below B4.out).trans t5)
          clear h5 p5 l5 t5
          go_wp2
          go_ret
          exact .inr (.inr (.inr ⟨OK.out, by rw [NM.out]; exact H5.out, by omega, by first | (rw [NM.out]; done) | (rw [NM.out]; rfl), R', P5.out, by rw [NM.out]; exact L5.out, T5.out⟩))
      | true =>
        clear hr
        go_wp2_with fail
        clear hw4
        refine (put_any p lo R ps nm ⟨Ap, np, cp, Ak, nk, ck, nd⟩ w4 P4.out H4.out (by omega) (N4.out.more (by omega)) hu hup hpp (by omega)).mono ?_
        rintro e w5 (⟨h5, rfl, b5⟩ | ⟨h5, rfl, R', p5, l5, _, t5⟩)
        · have B5 := Lib.hid (B4.out.trans (b5.mono (by omega)))
          have H5 := Lib.hid h5
          clear b5 h5
          go_wp2
          go_ret
          exact .inr (.inl ⟨OK.out, by rw [NM.out]; exact H5.out, by first | (rw [NM.out]; done) | (rw [NM.out]; rfl), B5.out⟩)
        · exact absurd (HR.out.trans h5) (by simp)
end Go.Proofs.Ytpgmiokdlloinaa

-- CellU: The program's WithNode: for all cells and nodes.
namespace Go.Proofs.Ytpgmiokdlloinaa
set_option maxRecDepth 100000
set_option linter.unusedVariables false
set_option linter.unusedSimpArgs false
open Go.RowKit

set_option maxHeartbeats 1000000 in
theorem implWithNode_any (A : Option Addr) (n c : Nat) (cs : List (Int × List Int)) (v : Value) (nd : MNode) (B : Nat) (w : World) (hn : n ≤ 1048576) (hc : n ≤ c) (hA : A = none → c = 0) (hm : ∀ i, (cel cs i).2.length ≤ 1048576) (hB : B ≤ w.heap.size) (hb : Cells w B A n cs) (hv : NodeIn w B v nd) :
    Calls Try.prog 24 #[.slice A n c, v] w fun e w' => ∃ A' n' c' l m, e = .returned (.tuple #[.slice A' n' c', .int .i64 m]) ∧ WithIs cs nd l m ∧ OwnC w' w.heap.size w'.heap.size A' n' c' l ∧ Below w.heap.size w w' := by
  obtain ⟨x, rfl, rfl⟩ := NV.of hv
  have HB := Lib.hid hb
  have HV := Lib.hid (hv.more hB)
  clear hb hv
  obtain ⟨Ap, np, cp, Ak, nk, ck, nd⟩ := x
  obtain ⟨x, hxe⟩ : ∃ x : NV, (⟨Ap, np, cp, Ak, nk, ck, nd⟩ : NV) = x := ⟨_, rfl⟩
  have hxn : x.nd = nd := by rw [← hxe]
  have hxv : x.v = .agg #[.int .i64 nd.kind, .slice Ap np cp, .slice Ak nk ck, .string nd.val] := by rw [← hxe]; rfl
  rw [hxe] at HV
  obtain ⟨w1, hw1⟩ : ∃ w1, w.alloc (.cells #[.int .i64 nd.kind, .slice Ap np cp, .slice Ak nk ck, .string nd.val] 32) = w1 := ⟨_, rfl⟩
  have b1 : Below w.heap.size w w1 := hw1 ▸ (Below.refl _ _).alloc (Nat.le_refl _) _
  have X1 := Lib.hid (show Box w1 w.heap.size 32 #[.int .i64 nd.kind, .slice Ap np cp, .slice Ak nk ck, .string nd.val] from hw1 ▸ heap_alloc_new _ _)
  have s1 : w1.heap.size = w.heap.size + 1 := hw1 ▸ by simp
  have B1 := Lib.hid b1
  have HB := Lib.hid (HB.out.below (b1.mono hB))
  have HXV := Lib.hid hxv
  have HXN := Lib.hid hxn
  clear b1 hxe hxv hxn
  unfold NV.v
  simp only
  go_enter Try.func24, Try.ntmps24
  go_wp2_with fail
  clear hw1
  refine (nodesOf_any A n c cs B w1 hn hc hA hm (by omega) HB.out).mono ?_
  rintro e w2 ⟨R, ps, b, rfl, b2, hor⟩
  have s2 := b2.size
  have X2 := Lib.hid (X1.out.below b2 (by omega))
  have B2 := Lib.hid (B1.out.trans (b2.mono (by omega)))
  rcases hor with ⟨rfl, hR, hnd⟩ | ⟨rfl, hno, hR0, hp0⟩
  · obtain ⟨w3, hw3⟩ : ∃ w3, w2.alloc (.cells #[R.kv ps.length, R.vv ps.length] 73) = w3 := ⟨_, rfl⟩
    have b3 : Below w2.heap.size w2 w3 := hw3 ▸ (Below.refl _ _).alloc (Nat.le_refl _) _
    have P3 := Lib.hid (show Box w3 w2.heap.size 73 #[R.kv ps.length, R.vv ps.length] from hw3 ▸ heap_alloc_new _ _)
    have s3 : w3.heap.size = w2.heap.size + 1 := hw3 ▸ by simp
    have B3 := Lib.hid (B2.out.trans (b3.mono (by omega)))
    unfold SR.kv SR.vv at hw3
    have D3 := Lib.hid (hnd.below b3)
    have RT := Lib.hid hR
    have hpp : ∀ y ∈ ps, ∀ g, y.2.use g → g ≠ w2.heap.size := fun y hy g hg => by have := ((hnd.own y hy).blk (NV.use_blk hg)).2; omega
    have PP := Lib.hid hpp
    have hus : ∀ g, x.use g → g < w.heap.size := fun g hg => NV.use_lt HV.out g hg
    have US := Lib.hid hus
    have X3 := Lib.hid (X2.out.below b3 (by omega))
    have q20 := X3.out.cell 0
    have q21 := X3.out.cell 1
    have q22 := X3.out.cell 2
    have q23 := X3.out.cell 3
    simp at q20 q21 q22 q23
    have hps : ps.length ≤ 80 := by have h1 := hnd.len; have h2 := hR.1; omega
    clear hnd hR b2 b3 hpp hus
    unfold SR.kv SR.vv
    go_wp2_with fail
    clear hw3 q20 q21 q22 q23
    rw [← HXV.out]
    refine (addNode_any w2.heap.size w1.heap.size R ps x w3 P3.out D3.out.sl (by omega) ((HV.out.below B3.out).more (by omega)) (fun g hg e => by have h1 := US.out g hg; have h2 := (D3.out.sl.lt g e).1; omega) (fun g hg => by have h1 := US.out g hg; omega) PP.out hps).mono ?_
    rintro e w4 h4
    unfold AddIs at h4
    rw [HXN.out] at h4
    have hf := D3.out.find RT.out (nameOf (nodeBytes nd))
    have hl3 := D3.out.len
    have key : ∃ m R' ps', e = .returned (.int .i64 m) ∧ Box w4 w2.heap.size 73 #[R'.kv ps'.length, R'.vv ps'.length] ∧ SLN w4 w1.heap.size R' ps' ∧ WithIs cs nd (cellsL ps') m ∧ Below w.heap.size w w4 := by
      have hce := D3.out.cells
      rcases h4 with ⟨hk, rfl, b4⟩ | ⟨hk, ht, rfl, b4⟩ | ⟨hk, ht, h80, rfl, b4⟩ | ⟨hk, ht, h80, rfl, R', hbx, hsl, t4⟩
      · exact ⟨-1, R, ps, rfl, P3.out.below b4 (by omega), D3.out.sl.below b4, .inr (.inl ⟨RT.out, hk, hce, rfl⟩), B3.out.trans (b4.mono (by omega))⟩
      · exact ⟨_, R, ps, rfl, P3.out.below b4 (by omega), D3.out.sl.below b4, .inr (.inr (.inl ⟨RT.out, hk, by have := hf.1 ht; omega, hce, rfl⟩)), B3.out.trans (b4.mono (by omega))⟩
      · exact ⟨-1, R, ps, rfl, P3.out.below b4 (by omega), D3.out.sl.below b4, .inr (.inr (.inr (.inl ⟨RT.out, hk, hf.2 ht, by omega, hce, rfl⟩))), B3.out.trans (b4.mono (by omega))⟩
      · have hli := lowI_len ps (nameOf (nodeBytes nd))
        refine ⟨_, R', _, rfl, by rw [insP_len _ _ _ hli]; exact hbx, hsl, .inr (.inr (.inr (.inr ⟨RT.out, hk, hf.2 ht, by omega, ?_, rfl⟩))), B3.out.trans (t4.below (by omega) (fun k hk e => e.elim (fun e => by omega) (fun e => by have := (D3.out.sl.lt k e).1; omega)))⟩
        rw [cellsL_ins, hce]
        simp only
        rw [HXN.out]
        exact ins_place ps cs _ _ w3 w1.heap.size R D3.out ht
    obtain ⟨m, R', ps', rfl, bx4, sl4, hwi, b4⟩ := key
    have S4 := Lib.hid sl4
    have WI := Lib.hid hwi
    have B4 := Lib.hid b4
    have q0 := bx4.cell 0
    have q1 := bx4.cell 1
    unfold SR.kv at q0
    unfold SR.vv at q1
    simp at q0 q1
    clear h4 hf sl4 hwi b4 bx4
    go_wp2_with fail
    refine (cellsOf_any w1.heap.size R' ps' w4 S4.out).mono ?_
    rintro e w5 ⟨A5, n5, c5, rfl, o5, b5⟩
    have O5 := Lib.hid o5
    have s4 := B4.out.size
    have B5 := Lib.hid (B4.out.trans (b5.mono s4))
    clear o5 b5 q0 q1
    go_wp2
    go_ret2
    exact ⟨_, _, _, _, m, rfl, WI.out, O5.out.base s4, B5.out⟩
  · subst hR0
    subst hp0
    clear b2
    unfold SR.kv SR.vv
    simp only [SR0, List.length_nil]
    go_wp2
    go_ret2
    exact ⟨none, 0, 0, [], -1, rfl, .inl ⟨hno, rfl, rfl⟩, OwnC.nil _ _ _, B2.out.trans (((Below.refl _ _).alloc (Nat.le_refl _) _).mono (by omega))⟩
end Go.Proofs.Ytpgmiokdlloinaa

-- ReachS: The model's ReachOf.
namespace Go.Proofs.Ytpgmiokdlloinaa
set_option maxRecDepth 20000
set_option linter.unusedVariables false
set_option linter.unusedSimpArgs false
open Go.RowKit

theorem l4In_any (A : Option Addr) (n c : Nat) (xs : List Int) (m : Int) (B : Nat) (w : World) (hn : n ≤ 1048576) (hb : Ints w B A n xs) :
    Calls Try.prog 97 #[.slice A n c, .int .i64 m] w fun e w' => e = .returned (.bool (decide (m ∈ xs))) ∧ w = w' := by
  have HB := Lib.hid hb
  have hlen := hb.1
  clear hb
  obtain ⟨R, hR⟩ : ∃ R : Bool, decide (m ∈ xs) = R := ⟨_, rfl⟩
  rw [hR]
  have HR := Lib.hid hR
  clear hR
  go_enter Try.func97, Try.ntmps97
  go_wp2
  go_loop [5] (fun i => ∃ k : Nat, k ≤ n ∧ i = .int .i64 k ∧ ∀ j, j < k → xs[j]?.getD 0 ≠ m) (fun i => n - (intOf i).toNat)
  case atStart => exact ⟨0, Nat.zero_le _, rfl, fun j hj => absurd hj (by omega)⟩
  case round =>
    obtain ⟨k, hk, rfl, hno⟩ := hrel
    by_cases hlt : k < n
    · obtain ⟨b, off, rfl, hbB, h0⟩ := HB.out.at_ hlt
      have hx : ∃ x, xs[k]?.getD 0 = x := ⟨_, rfl⟩
      obtain ⟨x, hx⟩ := hx
      rw [hx] at h0
      by_cases he : x = m
      · subst he
        have hr : true = R := by
          rw [← HR.out]
          refine (decide_eq_true ?_).symm
          rw [List.getElem?_eq_getElem (by omega)] at hx
          simp at hx
          rw [← hx]
          exact List.getElem_mem _
        subst hr
        clear HR
        go_wp2
        go_ret
        exact ⟨rfl, rfl⟩
      · have hb0 : (x == m) = false := by simpa using he
        go_wp2
        go_round
        case rel =>
          refine ⟨k + 1, by omega, by go_num, fun j hj => ?_⟩
          rcases Nat.lt_or_ge j k with h | h
          · exact hno j h
          · rw [show j = k by omega, hx]; exact he
        case measure => simp [intOf]; omega
    · have hr : false = R := by
        rw [← HR.out]
        refine (decide_eq_false fun h => ?_).symm
        obtain ⟨i, hi, e⟩ := List.mem_iff_getElem.1 h
        have := hno i (by omega)
        rw [List.getElem?_eq_getElem hi, e] at this
        exact this rfl
      subst hr
      clear HR
      go_wp2
      go_ret
      exact ⟨rfl, rfl⟩
theorem Ints.row {w : World} {B n : Nat} {A : Option Addr} {zs : List Int} (h : Ints w B A n zs) (hn : 0 < n) :
    ∃ b off, A = some ⟨b, off, none⟩ ∧ b < B ∧ ∀ j u, (zs.map (Value.int .i64))[j]? = some u → w.cell? ((⟨b, off, none⟩ : Addr).add j) = some u := by
  obtain ⟨b, off, rfl, hb, hc⟩ := h.2 hn
  refine ⟨b, off, rfl, hb, fun j u hj => ?_⟩
  have hadd : (⟨b, off, none⟩ : Addr).add j = ⟨b, off + j, none⟩ := by unfold Addr.add; split <;> simp_all
  have hjl : j < zs.length := by
    rcases Nat.lt_or_ge j zs.length with h | h
    · exact h
    · rw [List.getElem?_eq_none (by simpa using h)] at hj; cases hj
  have hl := h.1
  rw [hadd, hc j (by omega)]
  rw [List.getElem?_map, List.getElem?_eq_getElem hjl] at hj
  simp only [Option.map_some, Option.some.injEq] at hj
  rw [← hj]
  simp [List.getElem?_eq_getElem hjl]
theorem Ints.takes {w : World} {B n : Nat} {A : Option Addr} {zs : List Int} (h : Ints w B A n zs) (k : Nat) (hk : k ≤ n) : Ints w B A k (zs.take k) := by
  have hl := h.1
  refine ⟨by simp; omega, fun hp => ?_⟩
  obtain ⟨b, off, e, hb, hc⟩ := h.2 (by omega)
  refine ⟨b, off, e, hb, fun i hi => ?_⟩
  have h1 := hc i (by omega)
  rw [h1]
  simp [hi]
theorem l1Copy_any (A : Option Addr) (n c : Nat) (xs : List Int) (B : Nat) (w : World) (hn : n ≤ 1048576) (hB : B ≤ w.heap.size) (hA : A = none → c = 0) (hb : Ints w B A n xs) :
    Calls Try.prog 96 #[.slice A n c] w fun e w' => ∃ g c', e = .returned (.slice (some ⟨g, 0, none⟩) n c') ∧ OwnI w' w.heap.size (some ⟨g, 0, none⟩) n c' xs ∧ Below w.heap.size w w' := by
  have hlen := hb.1
  obtain ⟨i0, hi, hz0, hz1, hz2⟩ := info_parts Try.infoI
  have HI := Lib.hid hi
  have HZ0 := Lib.hid hz0
  have HZ1 := Lib.hid hz1
  have HZ2 := Lib.hid hz2
  have E0 := Lib.hid (OwnI.empty w w.heap.size (Nat.le_refl _))
  have B0 := Lib.hid ((Below.refl w.heap.size w).alloc (Nat.le_refl _) (.cells #[] 2))
  clear hi hz0 hz1 hz2
  cases A with
  | none =>
    obtain rfl : c = 0 := hA rfl
    obtain rfl : n = 0 := by
      rcases Nat.eq_zero_or_pos n with h | h
      · exact h
      · obtain ⟨b, off, e, _⟩ := hb.2 h; cases e
    obtain rfl : xs = [] := List.eq_nil_of_length_eq_zero hlen
    go_enter Try.func96, Try.ntmps96
    go_wp2
    go_ret
    exact ⟨_, _, rfl, E0.out, B0.out⟩
  | some a =>
    have hrow : ∀ j u, (xs.map (Value.int .i64))[j]? = some u → (w.alloc (.cells #[] 2)).cell? (a.add j) = some u := by
      intro j u hj
      have h0 : 0 < n := by
        rcases Nat.eq_zero_or_pos n with h | h
        · rw [List.getElem?_eq_none (by simp; omega)] at hj; cases hj
        · exact h
      obtain ⟨b, off, e, hbB, hrow⟩ := (hb.alloc hB (.cells #[] 2)).row h0
      cases e
      exact hrow j u hj
    have HROW := Lib.hid hrow
    clear hrow hb hA
    go_enter Try.func96, Try.ntmps96
    go_wp2_with (at_builtin; refine wpList_append_own _ rfl _ _ 29 rfl w.heap.size 2 i0 (.int .i64 0) 1 8 Try.underlying29 HI.out HZ0.out HZ1.out HZ2.out rfl (by decide) _ _ _ rfl E0.out a n _ (xs.map (Value.int .i64)) rfl ?c0 ?c1 ?c2 ?c3 ?c4 ?c5 ?_)
    case c0 => rw [List.length_map, Nat.mul_one]; exact hlen
    case c1 => exact HROW.out
    case c2 => intro u hu; obtain ⟨z, _, rfl⟩ := List.mem_map.1 hu; rfl
    case c3 => unfold maxLen; omega
    case c4 => omega
    case c5 => simp
    intro v1 w1 hown1 hgrow1 hnil1
    obtain ⟨g1, c1, rfl⟩ : ∃ g c, v1 = .slice (some ⟨g, 0, none⟩) n c := by
      rcases hown1.2 with ⟨e, _⟩ | ⟨g, cap, cur, e, _⟩
      · exact absurd e hnil1
      · exact ⟨g, cap, e⟩
    have hb1 : Below w.heap.size w w1 := B0.out.grown hgrow1 (by simp) (fun g hg => (World.ownsRow.lt E0.out g hg).1)
    have O1 := Lib.hid hown1
    have B1 := Lib.hid hb1
    clear hown1 hb1 hgrow1 hnil1
    go_wp2
    go_ret
    exact ⟨_, _, rfl, by simpa [OwnI] using O1.out, B1.out⟩

theorem l4Into_any (g n c : Nat) (xs : List Int) (m : Int) (B : Nat) (w : World) (hn : n ≤ 1048000) (hc : n ≤ c) (hB : B ≤ w.heap.size) (hb : Ints w B (some ⟨g, 0, none⟩) n xs) (hR : RiseI xs) :
    Calls Try.prog 98 #[.slice (some ⟨g, 0, none⟩) n c, .int .i64 m] w fun e w' => Below w.heap.size w w' ∧
      ((m ∈ xs ∧ e = .returned (.slice (some ⟨g, 0, none⟩) n c)) ∨ (m ∉ xs ∧ ∃ g' c', e = .returned (.slice (some ⟨g', 0, none⟩) (n + 1) c') ∧ OwnI w' w.heap.size (some ⟨g', 0, none⟩) (n + 1) c' (insI xs m))) := by
  have hlen := hb.1
  have HB := Lib.hid (hb.more hB)
  have HR := Lib.hid hR
  clear hb hR
  obtain ⟨i0, hi, hz0, hz1, hz2⟩ := info_parts Try.infoI
  have HI := Lib.hid hi
  have HZ0 := Lib.hid hz0
  have HZ1 := Lib.hid hz1
  have HZ2 := Lib.hid hz2
  clear hi hz0 hz1 hz2
  go_enter Try.func98, Try.ntmps98
  go_wp2_with fail
  refine (l4In_any _ n c xs m _ w (by omega) HB.out).mono ?_
  rintro e w' ⟨rfl, rfl⟩
  by_cases hin : m ∈ xs
  · rw [decide_eq_true hin]
    have HIN := Lib.hid hin
    clear hin
    go_wp2
    go_ret
    exact ⟨Below.refl _ _, .inl ⟨HIN.out, rfl⟩⟩
  · rw [decide_eq_false hin]
    have HIN := Lib.hid hin
    clear hin
    go_wp2
    go_loopw [5] (fun i wr => ∃ k : Nat, k ≤ n ∧ i = .int .i64 k ∧ (∀ j, k ≤ j → j < n → m < xs[j]?.getD 0) ∧ Below w.heap.size w wr) (fun i _ => (intOf i).toNat)
    case atStart => exact ⟨n, Nat.le_refl _, rfl, fun j h1 h2 => by omega, Below.refl _ _⟩
    case round =>
      obtain ⟨k, hk, rfl, hgt, hbr⟩ := hrel
      have BR := Lib.hid hbr
      have GT := Lib.hid hgt
      have HK := Lib.hid (HB.out.below hbr)
      have hsr : w.heap.size ≤ wr.heap.size := hbr.size
      clear hbr hgt
      by_cases hrun : 0 < k ∧ m < xs[k - 1]?.getD 0
      · obtain ⟨hk0, hlt⟩ := hrun
        have hwk : IntKind.i64.wrap ((k : Int) - 1) = (k : Int) - 1 := by rw [IntKind.wrap_i64]; omega
        have hd : decide ((0 : Int) < (k : Int)) = true := decide_eq_true (by omega)
        obtain ⟨b, off, e, hbB, p0⟩ := HK.out.at_ (k := k - 1) (by omega)
        cases e
        obtain ⟨y, hy⟩ : ∃ y, xs[k - 1]?.getD 0 = y := ⟨_, rfl⟩
        rw [hy] at p0 hlt
        rw [Nat.zero_add] at p0
        have hdR : decide (m < y) = true := decide_eq_true hlt
        go_wp2
        go_roundw
        case rel =>
          refine ⟨k - 1, by omega, by go_num, fun j h1 h2 => ?_, BR.out⟩
          rcases Nat.lt_or_ge j k with h | h
          · rw [show j = k - 1 by omega, hy]; exact hlt
          · exact GT.out j h h2
        case measure => simp [intOf]; omega
      · have hpl := placeI_at xs m k (by omega) (fun j hj => by
          rcases Nat.lt_or_ge j (k - 1) with h | h
          · have := riseI_at xs HR.out j (k - 1) h (by omega); omega
          · rw [show j = k - 1 by omega]; omega) (fun h => GT.out k (Nat.le_refl _) (by omega))
        have PL := Lib.hid hpl
        have NR := Lib.hid hrun
        clear hpl hrun
        by_cases hk0 : 0 < k
        · have hwk : IntKind.i64.wrap ((k : Int) - 1) = (k : Int) - 1 := by rw [IntKind.wrap_i64]; omega
          have hd : decide ((0 : Int) < (k : Int)) = true := decide_eq_true (by omega)
          obtain ⟨b, off, e, hbB, p0⟩ := HK.out.at_ (k := k - 1) (by omega)
          cases e
          obtain ⟨y, hy⟩ : ∃ y, xs[k - 1]?.getD 0 = y := ⟨_, rfl⟩
          have hlt := NR.out
          rw [hy] at p0 hlt
          rw [Nat.zero_add] at p0
          have hdR : decide (m < y) = false := decide_eq_false (by omega)
          clear hlt
          have B2 := Lib.hid BR.out
          have K2 := Lib.hid HK.out
          have hs2 : w.heap.size ≤ wr.heap.size := B2.out.size
          obtain ⟨w2, rfl⟩ : ∃ w2, w2 = wr := ⟨_, rfl⟩
          go_wp2_with fail
          refine (l1Copy_any (some ⟨g, 0, none⟩) k c (xs.take k) w.heap.size w2 (by omega) hs2 (fun h => by cases h) (Ints.takes K2.out k hk)).mono ?_
          rintro e w3 ⟨g3, c3, rfl, o3, b3⟩
          have B3 := Lib.hid b3
          have O3 := Lib.hid o3
          have hs3 : w2.heap.size ≤ w3.heap.size := b3.size
          clear o3 b3
          go_wp2_with (at_builtin; refine wpList_append_lies _ rfl _ _ 29 rfl w2.heap.size 2 i0 (.int .i64 0) 1 8 Try.underlying29 HI.out HZ0.out HZ1.out HZ2.out rfl (by decide) _ _ _ rfl (own_touch (S := fun _ => False) O3.out (Touch.of_below ((Below.refl _ _).alloc (Nat.le_refl _) _)) (fun _ _ h => h)) ⟨w3.heap.size, 0, none⟩ 1 1 [.int .i64 m] rfl ?bq0 ?bq1 ?bq2 (by omega) ?bq3 ?bq4 ?bq5 _ rfl ?_)
          case bq0 => rfl
          case bq1 =>
            intro j u hj
            match j, hj with
            | 0, hj => simp at hj; subst hj; simp [Addr.add]
          case bq2 => intro u hu; simp at hu; subst hu; rfl
          case bq3 => unfold maxLen; omega
          case bq4 => omega
          case bq5 => simp; omega
          intro g4 c4 w4 hown4 hgrow4 _ _
          have b4 : Below w2.heap.size w2 w4 := (B3.out.trans (((Below.refl w3.heap.size w3).alloc (Nat.le_refl _) _).mono hs3)).grown hgrow4 (by simp; omega) (fun b hb => (World.ownsRow.lt O3.out b hb).1)
          have hs4 : w2.heap.size ≤ w4.heap.size := b4.size
          have OW4 := Lib.hid hown4
          have B4 := Lib.hid b4
          have K4 := Lib.hid (K2.out.below (b4.mono hs2))
          clear hown4 hgrow4 b4
          obtain ⟨off, hoff, hofk⟩ : ∃ off, (if c = k then (some ⟨g, 0, none⟩ : Option Addr) else some ⟨g, k, none⟩) = some ⟨g, off, none⟩ ∧ (k < n → off = k) := by
            by_cases h : c = k
            · exact ⟨0, if_pos h, fun h2 => by omega⟩
            · exact ⟨k, if_neg h, fun _ => rfl⟩
          go_wp2_with (at_builtin; refine wpList_append_own _ rfl _ _ 29 rfl w2.heap.size 2 i0 (.int .i64 0) 1 8 Try.underlying29 HI.out HZ0.out HZ1.out HZ2.out rfl (by decide) _ _ _ rfl OW4.out ⟨g, off, none⟩ (n - k) _ ((xs.drop k).map (Value.int .i64)) rfl ?br0 ?br1 ?br2 ?br3 ?br4 ?br5 ?_)
          case br0 => rw [List.length_map, List.length_drop]; omega
          case br1 =>
            intro j u hj
            have hadd : (⟨g, off, none⟩ : Addr).add j = ⟨g, off + j, none⟩ := by unfold Addr.add; split <;> simp_all
            have hjl : j < n - k := by
              rcases Nat.lt_or_ge j (n - k) with h | h
              · exact h
              · rw [List.getElem?_eq_none (by rw [List.length_map, List.length_drop]; omega)] at hj; cases hj
            obtain ⟨b, o, e, hbB, p0⟩ := K4.out.at_ (k := k + j) (by omega)
            cases e
            rw [hadd, hofk (by omega)]
            rw [Nat.zero_add] at p0
            rw [p0, ← hj, List.getElem?_map, List.getElem?_drop, List.getElem?_eq_getElem (by omega)]
            rfl
          case br2 => intro u hu; obtain ⟨z, _, rfl⟩ := List.mem_map.1 hu; rfl
          case br3 => unfold maxLen; omega
          case br4 => omega
          case br5 => omega
          intro v5 w5 hown5 hgrow5 hnil5
          obtain ⟨g5, c5, rfl⟩ : ∃ g5 c5, v5 = .slice (some ⟨g5, 0, none⟩) (k + 1 + (n - k)) c5 := by
            rcases hown5.2 with ⟨e, _⟩ | ⟨g, cap, cur, e, _⟩
            · exact absurd e hnil5
            · exact ⟨g, cap, e⟩
          have b5 : Below w2.heap.size w2 w5 := B4.out.grown hgrow5 (by omega) (fun b hb => (OW4.out.lt b hb).1)
          have B5 := Lib.hid b5
          have OW5 := Lib.hid hown5
          clear hown5 hgrow5 hnil5 b5
          rw [show k + 1 + (n - k) = n + 1 by omega] at OW5 ⊢
          go_wp2
          go_ret
          refine ⟨B2.out.trans (B5.out.mono hs2), .inr ⟨HIN.out, g5, c5, rfl, OwnI.base ?_ hs2⟩⟩
          unfold OwnI insI
          rw [PL.out]
          simpa using OW5.out
        · have hd : decide ((0 : Int) < (k : Int)) = false := decide_eq_false (by omega)
          have B2 := Lib.hid BR.out
          have K2 := Lib.hid HK.out
          have hs2 : w.heap.size ≤ wr.heap.size := B2.out.size
          obtain ⟨w2, rfl⟩ : ∃ w2, w2 = wr := ⟨_, rfl⟩
          go_wp2_with fail
          refine (l1Copy_any (some ⟨g, 0, none⟩) k c (xs.take k) w.heap.size w2 (by omega) hs2 (fun h => by cases h) (Ints.takes K2.out k hk)).mono ?_
          rintro e w3 ⟨g3, c3, rfl, o3, b3⟩
          have B3 := Lib.hid b3
          have O3 := Lib.hid o3
          have hs3 : w2.heap.size ≤ w3.heap.size := b3.size
          clear o3 b3
          go_wp2_with (at_builtin; refine wpList_append_lies _ rfl _ _ 29 rfl w2.heap.size 2 i0 (.int .i64 0) 1 8 Try.underlying29 HI.out HZ0.out HZ1.out HZ2.out rfl (by decide) _ _ _ rfl (own_touch (S := fun _ => False) O3.out (Touch.of_below ((Below.refl _ _).alloc (Nat.le_refl _) _)) (fun _ _ h => h)) ⟨w3.heap.size, 0, none⟩ 1 1 [.int .i64 m] rfl ?cq0 ?cq1 ?cq2 (by omega) ?cq3 ?cq4 ?cq5 _ rfl ?_)
          case cq0 => rfl
          case cq1 =>
            intro j u hj
            match j, hj with
            | 0, hj => simp at hj; subst hj; simp [Addr.add]
          case cq2 => intro u hu; simp at hu; subst hu; rfl
          case cq3 => unfold maxLen; omega
          case cq4 => omega
          case cq5 => simp; omega
          intro g4 c4 w4 hown4 hgrow4 _ _
          have b4 : Below w2.heap.size w2 w4 := (B3.out.trans (((Below.refl w3.heap.size w3).alloc (Nat.le_refl _) _).mono hs3)).grown hgrow4 (by simp; omega) (fun b hb => (World.ownsRow.lt O3.out b hb).1)
          have hs4 : w2.heap.size ≤ w4.heap.size := b4.size
          have OW4 := Lib.hid hown4
          have B4 := Lib.hid b4
          have K4 := Lib.hid (K2.out.below (b4.mono hs2))
          clear hown4 hgrow4 b4
          obtain ⟨off, hoff, hofk⟩ : ∃ off, (if c = k then (some ⟨g, 0, none⟩ : Option Addr) else some ⟨g, k, none⟩) = some ⟨g, off, none⟩ ∧ (k < n → off = k) := by
            by_cases h : c = k
            · exact ⟨0, if_pos h, fun h2 => by omega⟩
            · exact ⟨k, if_neg h, fun _ => rfl⟩
          go_wp2_with (at_builtin; refine wpList_append_own _ rfl _ _ 29 rfl w2.heap.size 2 i0 (.int .i64 0) 1 8 Try.underlying29 HI.out HZ0.out HZ1.out HZ2.out rfl (by decide) _ _ _ rfl OW4.out ⟨g, off, none⟩ (n - k) _ ((xs.drop k).map (Value.int .i64)) rfl ?cr0 ?cr1 ?cr2 ?cr3 ?cr4 ?cr5 ?_)
          case cr0 => rw [List.length_map, List.length_drop]; omega
          case cr1 =>
            intro j u hj
            have hadd : (⟨g, off, none⟩ : Addr).add j = ⟨g, off + j, none⟩ := by unfold Addr.add; split <;> simp_all
            have hjl : j < n - k := by
              rcases Nat.lt_or_ge j (n - k) with h | h
              · exact h
              · rw [List.getElem?_eq_none (by rw [List.length_map, List.length_drop]; omega)] at hj; cases hj
            obtain ⟨b, o, e, hbB, p0⟩ := K4.out.at_ (k := k + j) (by omega)
            cases e
            rw [hadd, hofk (by omega)]
            rw [Nat.zero_add] at p0
            rw [p0, ← hj, List.getElem?_map, List.getElem?_drop, List.getElem?_eq_getElem (by omega)]
            rfl
          case cr2 => intro u hu; obtain ⟨z, _, rfl⟩ := List.mem_map.1 hu; rfl
          case cr3 => unfold maxLen; omega
          case cr4 => omega
          case cr5 => omega
          intro v5 w5 hown5 hgrow5 hnil5
          obtain ⟨g5, c5, rfl⟩ : ∃ g5 c5, v5 = .slice (some ⟨g5, 0, none⟩) (k + 1 + (n - k)) c5 := by
            rcases hown5.2 with ⟨e, _⟩ | ⟨g, cap, cur, e, _⟩
            · exact absurd e hnil5
            · exact ⟨g, cap, e⟩
          have b5 : Below w2.heap.size w2 w5 := B4.out.grown hgrow5 (by omega) (fun b hb => (OW4.out.lt b hb).1)
          have B5 := Lib.hid b5
          have OW5 := Lib.hid hown5
          clear hown5 hgrow5 hnil5 b5
          rw [show k + 1 + (n - k) = n + 1 by omega] at OW5 ⊢
          go_wp2
          go_ret
          refine ⟨B2.out.trans (B5.out.mono hs2), .inr ⟨HIN.out, g5, c5, rfl, OwnI.base ?_ hs2⟩⟩
          unfold OwnI insI
          rw [PL.out]
          simpa using OW5.out
end Go.Proofs.Ytpgmiokdlloinaa

-- ReachL: The model's ReachOf: its loop.
namespace Go.Proofs.Ytpgmiokdlloinaa
set_option maxRecDepth 20000
set_option linter.unusedVariables false
set_option linter.unusedSimpArgs false
open Go.RowKit

def lenOf : Value → Nat
  | .slice _ n _ => n
  | _ => 0
/-- what is told of the names found and of those to be looked at. -/
structure Going (cs : List (Int × List Int)) (roots out todo : List Int) (b : Bool) : Prop where
  rise : RiseI out
  reach : ∀ x, x ∈ out → Reached cs roots x
  todos : ∀ x, x ∈ todo → x = 0 ∨ Reached cs roots x
  root : ∀ r, r ∈ roots → r ≠ 0 → r ∈ out ∨ r ∈ todo
  kid : ∀ y k, y ∈ out → KidOf cs y k → k ∈ out ∨ k ∈ todo
  whole : b = true ↔ ∀ x, x ∈ out → findC cs x < cs.length
theorem Going.start (cs : List (Int × List Int)) (roots : List Int) : Going cs roots [] roots true :=
  ⟨List.Pairwise.nil, fun x h => by simp at h, fun x h => by
    by_cases h0 : x = 0
    · exact .inl h0
    · exact .inr (Reached.root h h0), fun r h _ => .inr h, fun y k h => by simp at h, ⟨fun _ x h => by simp at h, fun _ => rfl⟩⟩
theorem Going.skip {cs : List (Int × List Int)} {roots out todo : List Int} {b : Bool} {m : Int} (h : Going cs roots out (todo ++ [m]) b) (hm : m = 0 ∨ m ∈ out) : Going cs roots out todo b := by
  refine ⟨h.rise, h.reach, fun x hx => h.todos x (List.mem_append_left _ hx), fun r hr h0 => ?_, fun y k hy hk => ?_, h.whole⟩
  · rcases h.root r hr h0 with h1 | h1
    · exact .inl h1
    · rcases List.mem_append.1 h1 with h2 | h2
      · exact .inr h2
      · simp at h2
        subst h2
        rcases hm with e | e
        · exact absurd e h0
        · exact .inl e
  · rcases h.kid y k hy hk with h1 | h1
    · exact .inl h1
    · rcases List.mem_append.1 h1 with h2 | h2
      · exact .inr h2
      · simp at h2
        subst h2
        rcases hm with e | e
        · exact absurd e (kidOf_pos hk)
        · exact .inl e
theorem Going.take {cs : List (Int × List Int)} {roots out todo : List Int} {b is : Bool} {m : Int} {nd : MNode} (hR : Right cs) (h : Going cs roots out (todo ++ [m]) b) (h0 : m ≠ 0) (hm : m ∉ out) (hit : HitIs cs m nd is) :
    Going cs roots (insI out m) (todo ++ nd.kids.map (·.2)) (b && is) := by
  have hr : Reached cs roots m := by
    rcases h.todos m (by simp) with e | e
    · exact absurd e h0
    · exact e
  refine ⟨insI_rise out m h.rise hm, fun x hx => ?_, fun x hx => ?_, fun r hr' hr0 => ?_, fun y k hy hk => ?_, ?_⟩
  · rcases (insI_mem out m x).1 hx with e | e
    · rw [e]; exact hr
    · exact h.reach x e
  · rcases List.mem_append.1 hx with h1 | h1
    · exact h.todos x (List.mem_append_left _ h1)
    · obtain ⟨⟨a, k⟩, hp, rfl⟩ := List.mem_map.1 h1
      right
      cases is with
      | true => exact hr.kid ⟨nd, a, hit, hp⟩
      | false =>
        have hn : nd = node0 := by
          rcases hit with ⟨_, ⟨h, _⟩ | ⟨_, h, _⟩⟩ | ⟨_, h, _⟩
          · cases h
          · exact h
          · exact h
        rw [hn] at hp
        simp [node0] at hp
  · rcases h.root r hr' hr0 with h1 | h1
    · exact .inl ((insI_mem out m r).2 (.inr h1))
    · rcases List.mem_append.1 h1 with h2 | h2
      · exact .inr (List.mem_append_left _ h2)
      · simp at h2
        exact .inl ((insI_mem out m r).2 (.inl h2))
  · rcases (insI_mem out m y).1 hy with e | e
    · subst e
      obtain ⟨nd', a, h1, h2⟩ := hk
      obtain ⟨rfl, rfl⟩ := hit.one h1
      exact .inr (List.mem_append_right _ (List.mem_map.2 ⟨(a, k), h2, rfl⟩))
    · rcases h.kid y k e hk with h1 | h1
      · exact .inl ((insI_mem out m k).2 (.inr h1))
      · rcases List.mem_append.1 h1 with h2 | h2
        · exact .inr (List.mem_append_left _ h2)
        · simp at h2
          exact .inl ((insI_mem out m k).2 (.inl h2))
  · have hf := hit_found hR hit
    constructor
    · intro hb x hx
      have hb : b = true ∧ is = true := by simpa using hb
      rcases (insI_mem out m x).1 hx with e | e
      · rw [e]; exact hf.1 hb.2
      · exact h.whole.1 hb.1 x e
    · intro hx
      have h1 : b = true := h.whole.2 fun x hxo => hx x ((insI_mem out m x).2 (.inr hxo))
      have h2 : is = true := hf.2 (hx m ((insI_mem out m m).2 (.inl rfl)))
      simp [h1, h2]
theorem Going.done {cs : List (Int × List Int)} {roots out : List Int} {b : Bool} (h : Going cs roots out [] b) (x : Int) : x ∈ out ↔ Reached cs roots x := by
  refine ⟨h.reach x, fun hx => hx (· ∈ out) (fun r hr h0 => ?_) (fun y k hy hk => ?_)⟩
  · rcases h.root r hr h0 with h1 | h1
    · exact h1
    · simp at h1
  · rcases h.kid y k hy hk with h1 | h1
    · exact h1
    · simp at h1
theorem Going.len {cs : List (Int × List Int)} {roots out todo : List Int} {b : Bool} (h : Going cs roots out todo b) : out.length ≤ roots.length + 16 * cs.length := by
  obtain ⟨u, hu, hx⟩ := reach_bound cs roots
  exact Nat.le_trans (riseI_len out u h.rise fun x hx' => hx x (h.reach x hx')) hu
theorem hit_kids {cs : List (Int × List Int)} {m : Int} {nd : MNode} {b : Bool} (h : HitIs cs m nd b) : nd.kids.length ≤ 16 := by
  cases b with
  | true => exact kidsOk_len nd.kids (nodeOk_parts nd (hit_ok h)).2.1
  | false =>
    have hn : nd = node0 := by
      rcases h with ⟨_, ⟨h, _⟩ | ⟨_, h, _⟩⟩ | ⟨_, h, _⟩
      · cases h
      · exact h
      · exact h
    rw [hn]; simp [node0]

theorem OwnI.short {w : World} {base g q c : Nat} {xs : List Int} (h : OwnI w base (some ⟨g, 0, none⟩) (q + 1) c xs) : OwnI w base (some ⟨g, 0, none⟩) q c (xs.take q) := by
  have hl := h.len
  refine ⟨by simp; omega, ?_⟩
  rcases h.2 with ⟨e, _⟩ | ⟨g', cap, cur, e, hb, hg, hn, hc, hs, ht⟩
  · cases e
  · refine .inr ⟨g', cap, cur, ?_, hb, hg, by omega, hc, hs, ?_⟩
    · cases e; rfl
    · rw [Nat.mul_one] at ht ⊢
      rw [List.map_take, ← ht, List.take_take]
      congr 1; omega
theorem OwnI.last {w : World} {base g q c : Nat} {xs : List Int} (h : OwnI w base (some ⟨g, 0, none⟩) (q + 1) c xs) : xs = xs.take q ++ [xs[q]?.getD 0] := by
  have hl := h.len
  conv => lhs; rw [← List.take_append_drop q xs]
  rw [List.drop_eq_getElem_cons (by omega), List.getElem?_eq_getElem (by omega), List.drop_eq_nil_of_le (by omega)]
  rfl
theorem OwnI.cap {w : World} {base g n c : Nat} {xs : List Int} (h : OwnI w base (some ⟨g, 0, none⟩) n c xs) : n ≤ c := by
  rcases h.2 with ⟨e, _⟩ | ⟨g', cap, cur, e, _, _, hn, _⟩
  · cases e
  · cases e; exact hn
set_option maxHeartbeats 1600000 in
theorem l4Reach_any (A : Option Addr) (n c : Nat) (cs : List (Int × List Int)) (Ar : Option Addr) (nr cr : Nat) (roots : List Int) (B : Nat) (w : World) (hm : ∀ i, (cel cs i).2.length ≤ 1048576) (hR : Right cs) (hr : roots.length ≤ 80) (hA : Ar = none → cr = 0) (hB : B ≤ w.heap.size) (hb : Cells w B A n cs) (hbr : Ints w B Ar nr roots) :
    Calls Try.prog 66 #[.slice A n c, .slice Ar nr cr] w fun e w' => ∃ g n' c' l b, e = .returned (.tuple #[.slice (some ⟨g, 0, none⟩) n' c', .bool b]) ∧ Going cs roots l [] b ∧ OwnI w' w.heap.size (some ⟨g, 0, none⟩) n' c' l ∧ Below w.heap.size w w' := by
  have HB := Lib.hid (hb.more hB)
  have HBR := Lib.hid (hbr.more hB)
  have hlen := hb.1
  have hlr := hbr.1
  have RT := Lib.hid hR
  have hn80 : n ≤ 80 := by have := hR.1; omega
  clear hb hbr hR
  have b1 : Below w.heap.size w (w.alloc (.cells #[] 2)) := (Below.refl _ _).alloc (Nat.le_refl _) _
  have B1 := Lib.hid b1
  have E1 := Lib.hid (OwnI.empty w w.heap.size (Nat.le_refl _))
  clear b1
  obtain ⟨i0, hi, hz0, hz1, hz2⟩ := info_parts Try.infoI
  have HI := Lib.hid hi
  have HZ0 := Lib.hid hz0
  have HZ1 := Lib.hid hz1
  have HZ2 := Lib.hid hz2
  clear hi hz0 hz1 hz2
  go_enter Try.func66, Try.ntmps66
  go_wp2_with fail
  refine (l1Copy_any Ar nr cr roots w.heap.size _ (by omega) (by simp) hA (HBR.out.below B1.out)).mono ?_
  rintro e w2 ⟨g2, c2, rfl, o2, b2⟩
  have B2 := Lib.hid (B1.out.trans (b2.mono (by simp)))
  have E2 := Lib.hid (E1.out.below b2)
  have O2 := Lib.hid o2
  have hg2 : w.heap.size + 1 ≤ g2 := by have := (World.ownsRow.lt o2 g2 (by simp [Value.ownBlock])).1; simpa using this
  clear o2 b2
  go_wp2
  go_loopw [6, 7, 8] (fun o h t wr => ∃ (go no co gt nt ct : Nat) (out todo : List Int) (b : Bool), o = .slice (some ⟨go, 0, none⟩) no co ∧ h = .bool b ∧ t = .slice (some ⟨gt, 0, none⟩) nt ct ∧ go ≠ gt ∧ nt + 17 * (1360 - no) ≤ 23200 ∧
    OwnI wr w.heap.size (some ⟨go, 0, none⟩) no co out ∧ OwnI wr w.heap.size (some ⟨gt, 0, none⟩) nt ct todo ∧ Going cs roots out todo b ∧ Below w.heap.size w wr) (fun o _ t _ => lenOf t + 17 * (1360 - lenOf o))
  case atStart => exact ⟨w.heap.size, 0, 0, g2, nr, c2, [], roots, true, rfl, rfl, rfl, by omega, by omega, E2.out, O2.out.base (by simp), Going.start cs roots, B2.out⟩
  case round =>
    obtain ⟨go, no, co, gt, nt, ct, out, todo, b, rfl, rfl, rfl, hne, hbd, ho, ht, hgo, hbel⟩ := hrel
    have hlo := ho.len
    have hlt := ht.len
    have hgl := hgo.len
    have hs0 := hbel.size
    have BR := Lib.hid hbel
    have OR := Lib.hid ho
    have TR := Lib.hid ht
    have GR := Lib.hid hgo
    clear hbel ho ht hgo
    by_cases h0 : nt = 0
    · obtain rfl := h0
      obtain rfl : todo = [] := List.eq_nil_of_length_eq_zero hlt
      go_wp2
      go_ret2
      exact ⟨_, _, _, out, b, rfl, GR.out, OR.out, BR.out⟩
    · obtain ⟨q, rfl⟩ : ∃ q, nt = q + 1 := ⟨nt - 1, by omega⟩
      have hq0 := TR.out.cell (k := q) (by omega)
      have hlast := TR.out.last
      obtain ⟨m, hmq⟩ : ∃ m, todo[q]?.getD 0 = m := ⟨_, rfl⟩
      rw [hmq] at hq0 hlast
      have G1 := GR.out
      rw [hlast] at G1
      have GR := Lib.hid G1
      have hct := TR.out.cap
      have T1 := Lib.hid TR.out.short
      clear G1 TR hlast hmq
      generalize todo.take q = td at T1 GR
      have hd : decide ((0 : Int) < ((q + 1 : Nat) : Int)) = true := decide_eq_true (by omega)
      have hwk : IntKind.i64.wrap (((q + 1 : Nat) : Int) - 1) = (q : Int) := by rw [IntKind.wrap_i64]; omega
      by_cases hm0 : m = 0
      · have hb0 : (m == 0) = true := by simp [hm0]
        go_wp2
        go_roundw
        case rel => exact ⟨go, no, co, gt, q, ct, out, td, b, rfl, rfl, rfl, hne, by omega, OR.out, T1.out, GR.out.skip (.inl hm0), BR.out⟩
        case measure => simp [lenOf]
      · have hb0 : (m == 0) = false := by simpa using hm0
        have HM0 := Lib.hid hm0
        clear hm0
        have hno : no ≤ 1360 := by omega
        go_wp2_with fail
        refine (l4In_any _ no co out m _ wr (by omega) OR.out.ints).mono ?_
        rintro e w' ⟨rfl, rfl⟩
        by_cases hin : m ∈ out
        · rw [decide_eq_true hin]
          have HIN := Lib.hid hin
          clear hin
          go_wp2
          go_roundw
          case rel => exact ⟨go, no, co, gt, q, ct, out, td, b, rfl, rfl, rfl, hne, by omega, OR.out, T1.out, GR.out.skip (.inr HIN.out), BR.out⟩
          case measure => simp [lenOf]
        · rw [decide_eq_false hin]
          have HIN := Lib.hid hin
          clear hin
          go_wp2_with fail
          refine (l4Into_any go no co out m _ wr (by omega) OR.out.cap (Nat.le_refl _) OR.out.ints GR.out.rise).mono ?_
          rintro e w3 ⟨b3, h3⟩
          rcases h3 with ⟨h3, _⟩ | ⟨_, g3, c3, rfl, o3⟩
          · exact absurd h3 HIN.out
          have O3 := Lib.hid o3
          have T3 := Lib.hid (T1.out.below b3)
          have B3 := Lib.hid (BR.out.trans (b3.mono hs0))
          have hs3 : wr.heap.size ≤ w3.heap.size := b3.size
          have hg3 : wr.heap.size ≤ g3 := (World.ownsRow.lt o3 g3 (by simp [Value.ownBlock])).1
          have hgt : gt < wr.heap.size := (World.ownsRow.lt T1.out gt (by simp [Value.ownBlock])).2
          clear b3 o3 OR
          go_wp2_with fail
          refine (l4Node_any A n c cs m w.heap.size w3 (by omega) hm (by omega) (HB.out.below B3.out)).mono ?_
          rintro e w4 ⟨v, nd, is, rfl, own, hit, b4⟩
          have O4 := Lib.hid (O3.out.below b4)
          have T4 := Lib.hid (T3.out.below b4)
          have B4 := Lib.hid (B3.out.trans (b4.mono (by omega)))
          have hs4 : w3.heap.size ≤ w4.heap.size := b4.size
          have HIT := Lib.hid hit
          obtain ⟨Ap, np, cp, Ak, nk, ck, rfl, hnp, hnk, hsz, hp, hk, hap⟩ := own
          have HKK := Lib.hid hk
          have h16 := hit_kids hit
          have hkl := hk.len
          clear hp hk hap b4 hit O3 T3 T1
          obtain ⟨w5, hw5⟩ : ∃ w5, w4.alloc (.cells #[.int .i64 0, .slice none 0 0, .slice none 0 0, .string { data := #[] }] 32) = w5 := ⟨_, rfl⟩
          have x5 : Box w5 w4.heap.size _ _ := hw5 ▸ heap_alloc_new _ _
          have b5 : Below w4.heap.size w4 w5 := hw5 ▸ (Below.refl _ _).alloc (Nat.le_refl _) _
          have X5 := Lib.hid x5
          obtain ⟨w6, hw6⟩ : ∃ w6, (((w5.setCell ⟨w4.heap.size, 0, none⟩ (.int .i64 nd.kind)).setCell ⟨w4.heap.size, 1, none⟩ (.slice Ap np cp)).setCell ⟨w4.heap.size, 2, none⟩ (.slice Ak nk ck)).setCell ⟨w4.heap.size, 3, none⟩ (.string nd.val) = w6 := ⟨_, rfl⟩
          have h4' := set4 x5 (.int .i64 nd.kind) (.slice Ap np cp) (.slice Ak nk ck) (.string nd.val)
          have t6 : Touch (fun b => b = w4.heap.size) w5 w6 := hw6 ▸ h4'.2
          have x6 : Box w6 w4.heap.size 32 #[.int .i64 nd.kind, .slice Ap np cp, .slice Ak nk ck, .string nd.val] := hw6 ▸ h4'.1
          have b6 : Below w4.heap.size w4 w6 := b5.trans (t6.below b5.size (fun b hb e => by omega))
          have X6 := Lib.hid x6
          have O6 := Lib.hid (O4.out.below b6)
          have T6 := Lib.hid (T4.out.below b6)
          have K6 := Lib.hid (HKK.out.below b6)
          have B6 := Lib.hid (B4.out.trans (b6.mono (by omega)))
          have hs6 : w4.heap.size ≤ w6.heap.size := b6.size
          have q20 := X5.out.cell 0
          have q21 := X5.out.cell 1
          have q22 := X5.out.cell 2
          have q23 := X5.out.cell 3
          have f2 := X5.out.free
          have q62 := X6.out.cell 2
          simp at q20 q21 q22 q23 q62
          clear x5 b5 h4' t6 x6 b6
          cases b with
          | false =>
            have GT := Lib.hid (GR.out.take RT.out HM0.out HIN.out HIT.out)
            have hgtl : w.heap.size ≤ gt := (World.ownsRow.lt T6.out gt (by simp [Value.ownBlock])).1
            have hx4 := X6.out.lt
            go_wp2
            go_loopw [8, 12] (fun t i wr => ∃ (k gk ck' : Nat), k ≤ nk ∧ i = .int .i64 k ∧ t = .slice (some ⟨gk, 0, none⟩) (q + k) ck' ∧ (gk = gt ∨ w6.heap.size ≤ gk) ∧ OwnI wr w.heap.size (some ⟨gk, 0, none⟩) (q + k) ck' (td ++ (nd.kids.take k).map (·.2)) ∧ Touch (fun b => b = gt ∨ w6.heap.size ≤ b) w6 wr) (fun _ i _ => nk - (intOf i).toNat)
            case atStart => exact ⟨0, gt, ct, Nat.zero_le _, rfl, rfl, .inl rfl, by simpa using T6.out, Touch.of_below (Below.refl _ _)⟩
            case round =>
              obtain ⟨k, gk, ck', hkn, rfl, rfl, hgk, htk, htt⟩ := hrel
              have TK := Lib.hid htk
              have TT := Lib.hid htt
              have hsv : w6.heap.size ≤ wr.heap.size := htt.size
              have xv : Box wr w4.heap.size 32 #[.int .i64 nd.kind, .slice Ap np cp, .slice Ak nk ck, .string nd.val] := (htt.block _ hx4 (fun e => by rcases e with e | e <;> omega)).trans X6.out
              have qv := xv.cell 2
              simp at qv
              have kv' := K6.out.touch htt (fun b hb e => by have h1 := (World.ownsRow.lt HKK.out b hb); rcases e with e | e <;> omega)
              have KV := Lib.hid kv'
              have XV := Lib.hid xv
              clear htk htt xv kv' q62
              by_cases hlk : k < nk
              · obtain ⟨gb, rfl, _, _⟩ := KV.out.form (by omega)
                have hk1 := KV.out.cell1 hlk
                have hst : (nd.kids.take (k + 1)).map (·.2) = (nd.kids.take k).map (·.2) ++ [(nd.kids[k]?.getD (0, 0)).2] := by
                  rw [List.take_succ_eq_append_getElem (by omega), List.map_append, List.getElem?_eq_getElem (by omega)]; rfl
                have HST := Lib.hid hst
                obtain ⟨L, hL⟩ : ∃ L, td ++ (nd.kids.take k).map (·.2) = L := ⟨_, rfl⟩
                have TK := TK.out
                rw [hL] at TK
                have TK := Lib.hid TK
                have HL := Lib.hid hL
                clear hst hL
                generalize (nd.kids[k]?.getD (0, 0)).2 = z at hk1 HST
                go_wp2_with (at_builtin; refine wpList_append_lies _ rfl _ _ 29 rfl w.heap.size 2 i0 (.int .i64 0) 1 8 Try.underlying29 HI.out HZ0.out HZ1.out HZ2.out rfl (by decide) _ _ _ rfl (own_touch (S := fun _ => False) TK.out (Touch.of_below ((Below.refl _ _).alloc (Nat.le_refl _) _)) (fun _ _ h => h)) ⟨wr.heap.size, 0, none⟩ 1 1 [.int .i64 z] rfl ?bq0 ?bq1 ?bq2 (by omega) ?bq3 ?bq4 ?bq5 _ rfl ?_)
                case bq2 => first | rfl | (intro u hu; simp at hu; subst hu; rfl)
                case bq3 => unfold maxLen; omega
                case bq4 => omega
                case bq5 => first | omega | (simp; omega)
                intro g7 c7 w7 hown7 hgrow7 hor7 _
                have t7 : Touch (fun b => b = gt ∨ w6.heap.size ≤ b) wr w7 := (Touch.of_below ((Below.refl wr.heap.size wr).alloc (Nat.le_refl _) _)).trans ((Touch.of_grown hgrow7).mono (fun b e => by simp [Value.ownBlock] at e; omega))
                have h7 : g7 = gt ∨ w6.heap.size ≤ g7 := by
                  rcases hor7 with e | e <;> (try simp [Value.ownBlock] at e) <;> omega
                have o7 : OwnI w7 w.heap.size (some ⟨g7, 0, none⟩) (q + (k + 1)) c7 (td ++ (nd.kids.take (k + 1)).map (·.2)) := by
                  rw [HST.out, ← List.append_assoc, HL.out]
                  unfold OwnI
                  rw [List.map_append]
                  exact hown7
                have O7 := Lib.hid o7
                have T7 := Lib.hid (TT.out.trans t7)
                have H7 := Lib.hid h7
                clear hown7 hgrow7 hor7 t7 o7 h7 qv hk1
                go_wp2
                go_roundw
                case rel => exact ⟨k + 1, g7, c7, by omega, by go_num, rfl, H7.out, O7.out, T7.out⟩
                case measure => simp [intOf]; omega
              · obtain rfl : k = nk := by omega
                have o8 := O6.out.touch TT.out (fun b hb e => by
                  have h1 : g3 = b := by simpa [Value.ownBlock] using hb
                  have h2 := (World.ownsRow.lt O6.out b hb).2
                  rcases e with e | e <;> omega)
                have b8 := B6.out.trans (TT.out.below (show w.heap.size ≤ w6.heap.size by omega) (fun b hb e => by rcases e with e | e <;> omega))
                have tk8 := TK.out
                rw [List.take_of_length_le (by omega)] at tk8
                have O8 := Lib.hid (OwnI.base o8 hs0)
                have B8 := Lib.hid b8
                have T8 := Lib.hid tk8
                have hg38 : g3 < w6.heap.size := (World.ownsRow.lt O6.out g3 (by simp [Value.ownBlock])).2
                clear o8 b8 tk8
                have hon := GT.out.len
                have hol := insI_len out m
                go_wp2
                go_roundw
                case rel => exact ⟨g3, no + 1, c3, gk, q + k, ck', insI out m, td ++ nd.kids.map (·.2), _, rfl, rfl, rfl, by rcases hgk with e | e <;> omega, by omega, O8.out, T8.out, GT.out, B8.out⟩
                case measure => simp [lenOf]; omega
          | true =>
            have GT := Lib.hid (GR.out.take RT.out HM0.out HIN.out HIT.out)
            have hgtl : w.heap.size ≤ gt := (World.ownsRow.lt T6.out gt (by simp [Value.ownBlock])).1
            have hx4 := X6.out.lt
            go_wp2
            go_loopw [8, 12] (fun t i wr => ∃ (k gk ck' : Nat), k ≤ nk ∧ i = .int .i64 k ∧ t = .slice (some ⟨gk, 0, none⟩) (q + k) ck' ∧ (gk = gt ∨ w6.heap.size ≤ gk) ∧ OwnI wr w.heap.size (some ⟨gk, 0, none⟩) (q + k) ck' (td ++ (nd.kids.take k).map (·.2)) ∧ Touch (fun b => b = gt ∨ w6.heap.size ≤ b) w6 wr) (fun _ i _ => nk - (intOf i).toNat)
            case atStart => exact ⟨0, gt, ct, Nat.zero_le _, rfl, rfl, .inl rfl, by simpa using T6.out, Touch.of_below (Below.refl _ _)⟩
            case round =>
              obtain ⟨k, gk, ck', hkn, rfl, rfl, hgk, htk, htt⟩ := hrel
              have TK := Lib.hid htk
              have TT := Lib.hid htt
              have hsv : w6.heap.size ≤ wr.heap.size := htt.size
              have xv : Box wr w4.heap.size 32 #[.int .i64 nd.kind, .slice Ap np cp, .slice Ak nk ck, .string nd.val] := (htt.block _ hx4 (fun e => by rcases e with e | e <;> omega)).trans X6.out
              have qv := xv.cell 2
              simp at qv
              have kv' := K6.out.touch htt (fun b hb e => by have h1 := (World.ownsRow.lt HKK.out b hb); rcases e with e | e <;> omega)
              have KV := Lib.hid kv'
              have XV := Lib.hid xv
              clear htk htt xv kv' q62
              by_cases hlk : k < nk
              · obtain ⟨gb, rfl, _, _⟩ := KV.out.form (by omega)
                have hk1 := KV.out.cell1 hlk
                have hst : (nd.kids.take (k + 1)).map (·.2) = (nd.kids.take k).map (·.2) ++ [(nd.kids[k]?.getD (0, 0)).2] := by
                  rw [List.take_succ_eq_append_getElem (by omega), List.map_append, List.getElem?_eq_getElem (by omega)]; rfl
                have HST := Lib.hid hst
                obtain ⟨L, hL⟩ : ∃ L, td ++ (nd.kids.take k).map (·.2) = L := ⟨_, rfl⟩
                have TK := TK.out
                rw [hL] at TK
                have TK := Lib.hid TK
                have HL := Lib.hid hL
                clear hst hL
                generalize (nd.kids[k]?.getD (0, 0)).2 = z at hk1 HST
                go_wp2_with (at_builtin; refine wpList_append_lies _ rfl _ _ 29 rfl w.heap.size 2 i0 (.int .i64 0) 1 8 Try.underlying29 HI.out HZ0.out HZ1.out HZ2.out rfl (by decide) _ _ _ rfl (own_touch (S := fun _ => False) TK.out (Touch.of_below ((Below.refl _ _).alloc (Nat.le_refl _) _)) (fun _ _ h => h)) ⟨wr.heap.size, 0, none⟩ 1 1 [.int .i64 z] rfl ?cq0 ?cq1 ?cq2 (by omega) ?cq3 ?cq4 ?cq5 _ rfl ?_)
                case cq2 => first | rfl | (intro u hu; simp at hu; subst hu; rfl)
                case cq3 => unfold maxLen; omega
                case cq4 => omega
                case cq5 => first | omega | (simp; omega)
                intro g7 c7 w7 hown7 hgrow7 hor7 _
                have t7 : Touch (fun b => b = gt ∨ w6.heap.size ≤ b) wr w7 := (Touch.of_below ((Below.refl wr.heap.size wr).alloc (Nat.le_refl _) _)).trans ((Touch.of_grown hgrow7).mono (fun b e => by simp [Value.ownBlock] at e; omega))
                have h7 : g7 = gt ∨ w6.heap.size ≤ g7 := by
                  rcases hor7 with e | e <;> (try simp [Value.ownBlock] at e) <;> omega
                have o7 : OwnI w7 w.heap.size (some ⟨g7, 0, none⟩) (q + (k + 1)) c7 (td ++ (nd.kids.take (k + 1)).map (·.2)) := by
                  rw [HST.out, ← List.append_assoc, HL.out]
                  unfold OwnI
                  rw [List.map_append]
                  exact hown7
                have O7 := Lib.hid o7
                have T7 := Lib.hid (TT.out.trans t7)
                have H7 := Lib.hid h7
                clear hown7 hgrow7 hor7 t7 o7 h7 qv hk1
                go_wp2
                go_roundw
                case rel => exact ⟨k + 1, g7, c7, by omega, by go_num, rfl, H7.out, O7.out, T7.out⟩
                case measure => simp [intOf]; omega
              · obtain rfl : k = nk := by omega
                have o8 := O6.out.touch TT.out (fun b hb e => by
                  have h1 : g3 = b := by simpa [Value.ownBlock] using hb
                  have h2 := (World.ownsRow.lt O6.out b hb).2
                  rcases e with e | e <;> omega)
                have b8 := B6.out.trans (TT.out.below (show w.heap.size ≤ w6.heap.size by omega) (fun b hb e => by rcases e with e | e <;> omega))
                have tk8 := TK.out
                rw [List.take_of_length_le (by omega)] at tk8
                have O8 := Lib.hid (OwnI.base o8 hs0)
                have B8 := Lib.hid b8
                have T8 := Lib.hid tk8
                have hg38 : g3 < w6.heap.size := (World.ownsRow.lt O6.out g3 (by simp [Value.ownBlock])).2
                clear o8 b8 tk8
                have hon := GT.out.len
                have hol := insI_len out m
                go_wp2
                go_roundw
                case rel => exact ⟨g3, no + 1, c3, gk, q + k, ck', insI out m, td ++ nd.kids.map (·.2), _, rfl, rfl, rfl, by rcases hgk with e | e <;> omega, by omega, O8.out, T8.out, GT.out, B8.out⟩
                case measure => simp [lenOf]; omega
end Go.Proofs.Ytpgmiokdlloinaa

-- ReachO: The model's ReachOf.
namespace Go.Proofs.Ytpgmiokdlloinaa
set_option maxRecDepth 20000
set_option linter.unusedVariables false
set_option linter.unusedSimpArgs false
open Go.RowKit

theorem specReachOf_any (A : Option Addr) (n c : Nat) (cs : List (Int × List Int)) (Ar : Option Addr) (nr cr : Nat) (roots : List Int) (B : Nat) (w : World) (hn : n ≤ 1048576) (hnr : nr ≤ 1048576) (hm : ∀ i, (cel cs i).2.length ≤ 1048576) (hA : Ar = none → cr = 0) (hB : B ≤ w.heap.size) (hb : Cells w B A n cs) (hbr : Ints w B Ar nr roots) :
    Calls Try.prog 28 #[.slice A n c, .slice Ar nr cr] w fun e w' => ∃ A' n' c' l b, e = .returned (.tuple #[.slice A' n' c', .bool b]) ∧ ReachIs cs roots l b ∧ OwnI w' w.heap.size A' n' c' l ∧ Below w.heap.size w w' := by
  have HB := Lib.hid (hb.more hB)
  have HBR := Lib.hid (hbr.more hB)
  have hlr := hbr.1
  clear hb hbr
  go_enter Try.func28, Try.ntmps28
  go_wp2_with fail
  refine (specCellsOk_any A n c cs w.heap.size w hn hm (by omega) HB.out).mono ?_
  rintro e w2 ⟨r, rfl, hr, b2⟩
  have HR := Lib.hid hr
  have B2 := Lib.hid b2
  have s2 : w.heap.size ≤ w2.heap.size := b2.size
  clear hr b2
  cases r with
  | false =>
    have hno : ¬ Right cs := fun h => absurd (HR.out.2 h) (by simp)
    have HNO := Lib.hid hno
    clear hno
    go_wp2
    go_ret2
    exact ⟨_, _, _, [], false, rfl, .inl ⟨fun h => HNO.out h.1, rfl, rfl⟩, OwnI.base (OwnI.empty w2 w2.heap.size (Nat.le_refl _)) s2, B2.out.trans (((Below.refl _ _).alloc (Nat.le_refl _) _).mono s2)⟩
  | true =>
    have hR : Right cs := HR.out.1 (by trivial)
    have RT := Lib.hid hR
    clear hR HR
    by_cases h80 : nr ≤ 80
    · have hd : decide ((80 : Int) < (nr : Int)) = false := decide_eq_false (by omega)
      go_wp2_with fail
      refine (l4Reach_any A n c cs Ar nr cr roots w.heap.size w2 hm RT.out (by omega) hA s2 (HB.out.below B2.out) (HBR.out.below B2.out)).mono ?_
      rintro e w3 ⟨g, n', c', l, b, rfl, hgo, ho, b3⟩
      have GO := Lib.hid hgo
      have HO := Lib.hid ho
      have B3 := Lib.hid b3
      clear hgo ho b3
      go_wp2
      go_ret2
      exact ⟨_, _, _, l, b, rfl, .inr ⟨⟨RT.out, by omega⟩, GO.out.rise, GO.out.done, GO.out.whole⟩, OwnI.base HO.out s2, B2.out.trans (B3.out.mono s2)⟩
    · have hd : decide ((80 : Int) < (nr : Int)) = true := decide_eq_true (by omega)
      go_wp2
      go_ret2
      exact ⟨_, _, _, [], false, rfl, .inl ⟨fun h => absurd h.2 (by omega), rfl, rfl⟩, OwnI.base (OwnI.empty w2 w2.heap.size (Nat.le_refl _)) s2, B2.out.trans (((Below.refl _ _).alloc (Nat.le_refl _) _).mono s2)⟩
end Go.Proofs.Ytpgmiokdlloinaa

-- InsB: slices.Insert of one element, as the program calls it, at one type of element. No statement of the program is proved here.
namespace Go.Proofs.Ytpgmiokdlloinaa
set_option maxRecDepth 100000
set_option linter.unusedVariables false
set_option linter.unusedSimpArgs false
open Go.RowKit

theorem Try.infoInsB : (Try.prog.info? 4).map (fun i => (i.zero, i.size, i.bytes)) = some (some (.bool false), 1, 1) := by kernel_rfl
theorem Try.sizeInsB : ∀ w, (Go.sizeOf 4).run Try.prog w = .ok 1 w := by
  intro w
  obtain ⟨i0, hi0, hz0, hz1, hz2⟩ := info_parts Try.infoInsB
  simp [sizeOf, typeInfo, hi0, hz1]
theorem Try.siInsB : (Try.prog.info? 4).map (·.size) = some 1 := by
  obtain ⟨i0, hi0, hz0, hz1, hz2⟩ := info_parts Try.infoInsB
  rw [hi0]; simp [hz1]
/-- what insertion of one element leaves. -/
def InsAtB (base n i : Nat) (v : Value) (xs us : List Value) (w : World) (e : Ending) (w' : World) : Prop :=
  ∃ g' c', e = .returned (.slice (some ⟨g', 0, none⟩) (n + 1) c') ∧ w'.ownsRow base 4 1 (.slice (some ⟨g', 0, none⟩) (n + 1) c') (n + 1) (putAt xs us (i * 1)) ∧ w.grownBy w' v.ownBlock ∧ (v.ownBlock = some g' ∨ w.heap.size ≤ g')
set_option maxHeartbeats 4000000 in
/-- there is no room, and the place is not the last. -/
theorem insB_grow (base n c i vb vc g : Nat) (xs us : List Value) (w : World) (hr : w.ownsRow base 4 1 (.slice (some ⟨g, 0, none⟩) n c) n xs) (hbase : base ≤ w.heap.size) (hi : i < n) (hn : n ≤ 1048576) (hc : c < n + 1)
    (hv : w.heap[vb]? = some (.cells us.toArray 4 (0, 0))) (hu : us.length = 1) (h1u : ∀ u ∈ us, u.oneCell' = true) (h1x : ∀ u ∈ xs, u.oneCell' = true) :
    Calls Try.prog 122 #[.slice (some ⟨g, 0, none⟩) n c, .int .i64 i, .slice (some ⟨vb, 0, none⟩) 1 vc] w fun e w' => InsAtB base n i (.slice (some ⟨g, 0, none⟩) n c) xs us w e w' := by
  obtain ⟨i0, hi0, hz0, hz1, hz2⟩ := info_parts Try.infoInsB
  obtain ⟨cur, hbg, hg, hnc, hcm, hcs, htk⟩ := own_parts hr
  have hxl := hr.1
  have hgw : g < w.heap.size := (Array.getElem?_eq_some_iff.1 hg).1
  have hvw : vb < w.heap.size := (Array.getElem?_eq_some_iff.1 hv).1
  obtain rfl : c = n := by omega
  have hold : (Builtin.firstCells i0.size i (.slice (some ⟨g, 0, none⟩) i c)).run Try.prog w.drew = .ok (xs.take (i * 1)).toArray w.drew := by
    rw [hz1]
    exact run_firstCells_some w.drew 1 i ⟨g, 0, none⟩ i c (xs.take (i * 1)) (by rw [List.length_take]; omega) (fun j v hj => by
      rw [Addr.add_lit, Nat.zero_add]
      rw [List.getElem?_take] at hj
      split at hj
      · exact (World.ownsRow.cellAt hr j (by omega)).trans hj
      · cases hj)
  obtain ⟨G, hG⟩ : ∃ G, G = grownCap w (c + 1) c 4 := ⟨_, rfl⟩
  have hGn : c + 1 ≤ G := by rw [hG]; exact grownCap_ge w _ _ _
  have hGm : G ≤ maxLen := by rw [hG]; exact grownCap_le_maxLen w (c + 1) c _ (by unfold maxLen; omega)
  obtain ⟨ZS, hZS⟩ : ∃ ZS : List Value, ZS = (Builtin.zeroCells (.bool false : Value).cells (c + 1 - i)).toList ++ (Builtin.zeroCells (.bool false : Value).cells (G - (c + 1))).toList := ⟨_, rfl⟩
  have hZl : ZS.length = (G - i) * 1 := by
    rw [hZS]
    simp [Builtin.zeroCells, Value.cells]
    omega
  obtain ⟨W1, hW1⟩ : ∃ W1, W1 = w.drew.alloc (.cells (xs.take (i * 1) ++ ZS).toArray 4) := ⟨_, rfl⟩
  have hrz : ∀ ty, (Builtin.append_ #[93, 3] ty #[.slice (some ⟨g, 0, none⟩) i c, .int .i64 ((c : Int) + 1 - (i : Int))]).run Try.prog w = .ok (.slice (some ⟨w.heap.size, 0, none⟩) (c + 1) G) W1 := fun ty => by
    have h := Lib.run_append_grow_zeros w 93 3 ty 4 i0 _ .i64 .i64 Try.underlying93 Try.underlying3 hi0 hz0 (some ⟨g, 0, none⟩) i c (xs.take (i * 1)) hold (c + 1 - i) (by omega) (by omega) (by omega) (by omega) (by rw [hz2]; omega)
      (by rw [hz2, show i + (c + 1 - i) = c + 1 by omega]; exact growslice_fits (by omega) (by omega))
    rw [show i + (c + 1 - i) = c + 1 by omega, ← hG, show (((c + 1 - i : Nat) : Nat) : Int) = (c : Int) + 1 - (i : Int) by omega] at h
    rw [h, hW1, hZS]
    congr 3
    apply Array.ext'
    simp
  have hg1 : W1.heap[w.heap.size]? = some (.cells (xs.take (i * 1) ++ ZS).toArray 4 (0, 0)) := by rw [hW1]; exact heap_alloc_new w.drew _
  have ho1 : ∀ k, k < w.heap.size → W1.heap[k]? = w.heap[k]? := fun k hk => by rw [hW1]; exact heap_alloc_old w.drew _ hk
  have hs1 : w.grownBy W1 (some w.heap.size) := ⟨by rw [hW1]; rfl, by rw [hW1]; rfl, by rw [hW1]; rfl, by rw [hW1]; simp, fun k hk _ => ho1 k hk⟩
  have lc0 : (xs.take (i * 1) ++ ZS).length = G * 1 := by simp [hZl]; omega
  obtain ⟨c1, hc1⟩ : ∃ c1 : List Value, c1 = (xs.take (i * 1) ++ ZS).take (i * 1) ++ us ++ (xs.take (i * 1) ++ ZS).drop (i * 1 + us.length) := ⟨_, rfl⟩
  have lc1 : c1.length = G * 1 := by rw [hc1]; simp [hZl]; omega
  obtain ⟨W2, hW2⟩ : ∃ W2, W2 = W1.setRow w.heap.size c1.toArray := ⟨_, rfl⟩
  have hcpA : ∀ ty dc, (Builtin.copy_ #[93, 93] ty #[.slice (some ⟨w.heap.size, i, none⟩) (c + 1 - i) dc, .slice (some ⟨vb, 0, none⟩) 1 vc]).run Try.prog W1 = .ok (goInt 1) W2 := fun ty dc => by
    have h := run_copy_wide (P := Try.prog) W1 93 93 ty 4 1 w.heap.size (i * 1) (c + 1 - i) dc 1 ⟨vb, 0, none⟩ 1 vc _ _ us Try.underlying93 Try.siInsB hg1 (by simp only [Nat.min_def]; split <;> omega) (by omega)
      (fun j v hj => by rw [Addr.add_lit, Nat.zero_add, cell_of_row W1 vb j us.toArray _ (0, 0) ((ho1 vb hvw).trans hv)]; simpa using hj) (by simp [hZl]; omega) h1u
    rw [hW2, hc1]
    simpa using h
  have hg2 : W2.heap[w.heap.size]? = some (.cells c1.toArray 4 (0, 0)) := by rw [hW2]; exact setRow_heap W1 _ _ _ _ _ hg1
  have ho2 : ∀ k, k < w.heap.size → W2.heap[k]? = w.heap[k]? := fun k hk => by rw [hW2, setRow_other W1 _ k _ (by omega)]; exact ho1 k hk
  obtain ⟨c2, hc2⟩ : ∃ c2 : List Value, c2 = c1.take (i * 1 + 1) ++ xs.drop (i * 1) ++ c1.drop (i * 1 + 1 + (xs.drop (i * 1)).length) := ⟨_, rfl⟩
  obtain ⟨W3, hW3⟩ : ∃ W3, W3 = W2.drew.setRow w.heap.size c2.toArray := ⟨_, rfl⟩
  have hcpB : ∀ ty dl dc sc, dl = c - i → (Builtin.copy_ #[93, 93] ty #[.slice (some ⟨w.heap.size, (i + 1), none⟩) dl dc, .slice (some ⟨g, i, none⟩) (c - i) sc]).run Try.prog W2.drew = .ok (goInt (c - i : Nat)) W3 := fun ty dl dc sc hdl => by
    subst hdl
    have h := run_copy_wide (P := Try.prog) W2.drew 93 93 ty 4 1 w.heap.size (i * 1 + 1) (c - i) dc (c - i) ⟨g, i * 1, none⟩ (c - i) sc _ _ (xs.drop (i * 1)) Try.underlying93 Try.siInsB hg2 (by simp only [Nat.min_def]; split <;> omega) (by simp; omega)
      (fun j v hj => by
        rw [Addr.add_lit]
        rw [List.getElem?_drop] at hj
        have hj' := (List.getElem?_eq_some_iff.1 hj).1
        rw [show W2.drew.cell? ⟨g, i * 1 + j, none⟩ = W2.cell? ⟨g, i * 1 + j, none⟩ from rfl, cell_of_row W2 g _ cur _ (0, 0) ((ho2 g hgw).trans hg)]
        rw [← cell_of_row w g _ cur _ (0, 0) hg]
        exact (World.ownsRow.cellAt hr _ (by omega)).trans hj) (by simp [lc1]; omega) (fun v hv => h1x v (List.mem_of_mem_drop hv))
    rw [hW3, hc2]
    simpa [Nat.add_mul] using h
  have hgr := grow_row xs us ZS (i * 1) 1 (by omega) hu (by rw [hZl]; omega)
  simp only [← hc1] at hgr
  rw [← hc2, lc0] at hgr
  have hfin : InsAtB base c i (.slice (some ⟨g, 0, none⟩) c c) xs us w (.returned (.slice (some ⟨w.heap.size, 0, none⟩) (c + 1) G)) W3 := by
    refine ⟨w.heap.size, G, rfl, own_mk c2.toArray (by rw [putAt_len]; omega) hbase (by rw [hW3]; exact setRow_heap W2.drew _ _ _ _ _ hg2) hGn hGm (by simpa using hgr.2) (by rw [show (c + 1) * 1 = xs.length + 1 by omega]; exact hgr.1), ?_, .inr (Nat.le_refl _)⟩
    refine ⟨by rw [hW3, hW2]; exact hs1.os, by rw [hW3, hW2]; exact hs1.tape, by rw [hW3, hW2]; exact hs1.output, by rw [hW3, hW2]; simpa using hs1.size, fun k hk _ => ?_⟩
    rw [hW3, setRow_other W2.drew _ k _ (by omega)]; exact ho2 k hk
  have HF := Lib.hid hfin
  have HA := Lib.hid hrz
  have HB := Lib.hid hcpA
  have HC := Lib.hid hcpB
  clear hfin hrz hcpA hcpB hgr hg1 ho1 hs1 hg2 ho2 hold hG hW1 hW2 hW3 hZS hc1 hc2 lc0 lc1 hZl htk hcs hr hz0
  unfold maxLen at hGm
  have mixed : Try.prog.follows .mixedOrders = true := by kernel_rfl
  have hz2' : ¬ ((i : Int) = (c : Int)) := by omega
  have hz3 : (c : Int) < (c : Int) + 1 := by omega
  have hw1 : IntKind.i64.wrap ((i : Int) + 1) = (i : Int) + 1 := by rw [IntKind.wrap_i64]; omega
  have htn : ((i : Int) + 1).toNat = i + 1 := by omega
  have hGi : ¬ (G = i) := by omega
  have hGim : ¬ (G = i + 1) := by omega
  have hci : ¬ (c = i) := by omega
  have hb1 : (0 : Int) ≤ (i : Int) + 1 := by omega
  have hin : i ≤ c := by omega
  have hb3 : (i : Int) ≤ (c : Int) := by omega
  go_enter Try.func122, Try.ntmps122
  go_wp2_with (first
    | (at_builtin; refine Lib.wpList_append_run _ rfl _ _ _ _ rfl _ _ rfl rfl _ _ (HA.out _) ?_)
    | (simp only [HB.out]))
  go_region_law_o (refine step_copy_runI rfl _ _ 93 93 rfl _ _ (by simp [Act.eval, Act.put]) (by simp [Act.eval, Act.put]) (HC.out _ (c - i) (G - (i + 1)) (c - i) rfl) ?_)
  go_wp2
  go_ret
  exact HF.out
set_option maxHeartbeats 4000000 in
/-- there is room, and the place is not the last. -/
theorem insB_room (base n c i vb vc g : Nat) (xs us : List Value) (w : World) (hr : w.ownsRow base 4 1 (.slice (some ⟨g, 0, none⟩) n c) n xs) (hbase : base ≤ w.heap.size) (hi : i < n) (hn : n ≤ 1048576) (hc : n + 1 ≤ c)
    (hv : w.heap[vb]? = some (.cells us.toArray 4 (0, 0))) (hu : us.length = 1) (h1u : ∀ u ∈ us, u.oneCell' = true) (h1x : ∀ u ∈ xs, u.oneCell' = true) (hne : g ≠ vb) :
    Calls Try.prog 122 #[.slice (some ⟨g, 0, none⟩) n c, .int .i64 i, .slice (some ⟨vb, 0, none⟩) 1 vc] w fun e w' => InsAtB base n i (.slice (some ⟨g, 0, none⟩) n c) xs us w e w' := by
  obtain ⟨cur, hbg, hg, hnc, hcm, hcs, htk⟩ := own_parts hr
  have hxl := hr.1
  have hgw : g < w.heap.size := (Array.getElem?_eq_some_iff.1 hg).1
  have hvw : vb < w.heap.size := (Array.getElem?_eq_some_iff.1 hv).1
  have hcl : cur.toList.length = c * 1 := by simpa using hcs
  have hov : ∀ lb cb, (callFunc 137 #[.slice (some ⟨vb, 0, none⟩) 1 vc, .slice (some ⟨g, (i + 1), none⟩) lb cb]).run Try.prog w = .ok (.value (.bool false)) w := fun lb cb => by
    rw [run_callFunc_extern Try.func137 (by kernel_rfl) (by kernel_rfl) (by kernel_rfl) (e := Extern.SlicesOverlaps.overlaps #[93, 93] #[4]) (by kernel_rfl),
      Lib.run_overlaps_apart w 93 4 4 Try.underlying93 1 Try.sizeInsB ⟨vb, 0, none⟩ ⟨g, (i + 1), none⟩ 1 vc lb cb (fun e => hne e.symm) 4 4 1 (c * 1) (by simp [World.shape?, hv, hu]) (by simp [World.shape?, hg, hcs]) (by omega) (frozen_of_row w vb 0 _ _ hv) (frozen_of_row w vb _ _ _ hv)]
    rfl
  obtain ⟨c1, hc1⟩ : ∃ c1 : List Value, c1 = cur.toList.take (i * 1 + 1) ++ xs.drop (i * 1) ++ cur.toList.drop (i * 1 + 1 + (xs.drop (i * 1)).length) := ⟨_, rfl⟩
  have lc1 : c1.length = c * 1 := by rw [hc1]; simp [hcs]; omega
  obtain ⟨W1, hW1⟩ : ∃ W1, W1 = w.drew.setRow g c1.toArray := ⟨_, rfl⟩
  have hcp1 : ∀ ty dl dc sc, dl = n - i → (Builtin.copy_ #[93, 93] ty #[.slice (some ⟨g, (i + 1), none⟩) dl dc, .slice (some ⟨g, i, none⟩) (n + 1 - i) sc]).run Try.prog w.drew = .ok (goInt (n - i : Nat)) W1 := fun ty dl dc sc hdl => by
    subst hdl
    have h := run_copy_wide (P := Try.prog) w.drew 93 93 ty 4 1 g (i * 1 + 1) (n - i) dc (n - i) ⟨g, i * 1, none⟩ (n + 1 - i) sc _ _ (xs.drop (i * 1)) Try.underlying93 Try.siInsB hg (by simp only [Nat.min_def]; split <;> omega) (by simp; omega)
      (fun j v hj => by
        rw [Addr.add_lit]
        rw [List.getElem?_drop] at hj
        have hj' := (List.getElem?_eq_some_iff.1 hj).1
        exact (World.ownsRow.cellAt hr _ (by omega)).trans hj) (by simp [hcs]; omega) (fun v hv => h1x v (List.mem_of_mem_drop hv))
    rw [hW1, hc1]
    simpa [Nat.add_mul] using h
  have hg1 : W1.heap[g]? = some (.cells c1.toArray 4 (0, 0)) := by rw [hW1]; exact setRow_heap w.drew _ _ _ _ _ hg
  have hv1 : W1.heap[vb]? = some (.cells us.toArray 4 (0, 0)) := by rw [hW1, setRow_other w.drew g vb _ (fun e => hne e.symm)]; exact hv
  obtain ⟨c2, hc2⟩ : ∃ c2 : List Value, c2 = c1.take (i * 1) ++ us ++ c1.drop (i * 1 + us.length) := ⟨_, rfl⟩
  obtain ⟨W2, hW2⟩ : ∃ W2, W2 = W1.setRow g c2.toArray := ⟨_, rfl⟩
  have hcp2 : ∀ ty dc, (Builtin.copy_ #[93, 93] ty #[.slice (some ⟨g, i, none⟩) (n + 1 - i) dc, .slice (some ⟨vb, 0, none⟩) 1 vc]).run Try.prog W1 = .ok (goInt 1) W2 := fun ty dc => by
    have h := run_copy_wide (P := Try.prog) W1 93 93 ty 4 1 g (i * 1) (n + 1 - i) dc 1 ⟨vb, 0, none⟩ 1 vc _ _ us Try.underlying93 Try.siInsB hg1 (by simp only [Nat.min_def]; split <;> omega) (by omega)
      (fun j v hj => by rw [Addr.add_lit, Nat.zero_add, cell_of_row W1 vb j us.toArray _ (0, 0) hv1]; simpa using hj) (by simp [lc1]; omega) h1u
    rw [hW2, hc2]
    simpa using h
  have hsr := shift_row cur.toList us xs (i * 1) 1 (by rw [hxl]; exact htk) (by omega) hu (by rw [hcl]; omega)
  simp only [← hc1] at hsr
  rw [← hc2, hcl] at hsr
  have hfin : InsAtB base n i (.slice (some ⟨g, 0, none⟩) n c) xs us w (.returned (.slice (some ⟨g, 0, none⟩) (n + 1) c)) W2 := by
    refine ⟨g, c, rfl, own_mk c2.toArray (by rw [putAt_len]; omega) hbg (by rw [hW2]; exact setRow_heap W1 _ _ _ _ _ hg1) hc hcm (by simpa using hsr.2) (by rw [show (n + 1) * 1 = xs.length + 1 by omega]; exact hsr.1), ?_, .inl rfl⟩
    refine ⟨by rw [hW2, hW1]; rfl, by rw [hW2, hW1]; rfl, by rw [hW2, hW1]; rfl, by rw [hW2, hW1]; simp, fun k hk hkg => ?_⟩
    have hkg : k ≠ g := fun e => hkg (by rw [e]; simp [Value.ownBlock])
    rw [hW2, setRow_other W1 _ k _ hkg, hW1, setRow_other w.drew _ k _ hkg]; rfl
  have HF := Lib.hid hfin
  have HA := Lib.hid hcp1
  have HB := Lib.hid hcp2
  unfold maxLen at hcm
  clear hfin hcp1 hcp2 hsr hg1 hv1 hW1 hW2 hc1 hc2 lc1 hcl htk hcs hr
  have mixed : Try.prog.follows .mixedOrders = true := by kernel_rfl
  have hz2' : ¬ ((i : Int) = (n : Int)) := by omega
  have hw1 : IntKind.i64.wrap ((i : Int) + 1) = (i : Int) + 1 := by rw [IntKind.wrap_i64]; omega
  have hb1 : (0 : Int) ≤ (i : Int) + 1 := by omega
  have hin : i ≤ n := by omega
  have htn : ((i : Int) + 1).toNat = i + 1 := by omega
  have hb2 : ¬ (c = i + 1) := by omega
  have hb3 : (i : Int) ≤ (n : Int) + 1 := by omega
  have hb4 : ¬ (c = i) := by omega
  go_enter Try.func122, Try.ntmps122
  go_wp2_with (simp only [hov])
  go_region_law_o (refine step_copy_runI rfl _ _ 93 93 rfl _ _ (by simp [Act.eval, Act.put]) (by simp [Act.eval, Act.put]) (HA.out _ (n - i) (c - (i + 1)) (c - i) rfl) ?_)
  go_wp2_with (simp only [HB.out])
  go_ret
  exact HF.out
set_option maxHeartbeats 4000000 in
/-- the place is the last. -/
theorem insB_end (base n c vb vc : Nat) (A : Option Addr) (xs us : List Value) (w : World) (hr : w.ownsRow base 4 1 (.slice A n c) n xs) (hbase : base ≤ w.heap.size) (hn : n ≤ 1048576)
    (hv : w.heap[vb]? = some (.cells us.toArray 4 (0, 0))) (hu : us.length = 1) (h1u : ∀ u ∈ us, u.oneCell' = true) :
    Calls Try.prog 122 #[.slice A n c, .int .i64 n, .slice (some ⟨vb, 0, none⟩) 1 vc] w fun e w' => InsAtB base n n (.slice A n c) xs us w e w' := by
  obtain ⟨i0, hi0, hz0, hz1, hz2⟩ := info_parts Try.infoInsB
  obtain ⟨hnc, hcm, hA⟩ := own_cap hr
  unfold maxLen at hcm
  have hxl := hr.1
  have hx : putAt xs us (n * 1) = xs ++ us := by unfold putAt; rw [List.take_of_length_le (by omega), List.drop_of_length_le (by omega), List.append_nil]
  unfold InsAtB
  rw [hx]
  have hnn : ((n : Int) == (n : Int)) = true := by simp
  clear hx
  go_enter Try.func122, Try.ntmps122
  rcases own_none hr with ⟨rfl, rfl, rfl⟩ | ⟨g, rfl⟩
  all_goals
    go_wp2_with (at_builtin; refine wpList_append_lies _ rfl _ _ 93 rfl base 4 i0 (.bool false) 1 1 Try.underlying93 hi0 hz0 hz1 hz2 rfl (by decide) _ _ _ rfl hr ⟨vb, 0, none⟩ 1 vc us rfl (by omega) (fun j u hj => by rw [Addr.add_lit, Nat.zero_add, cell_of_row w vb j us.toArray _ (0, 0) hv]; simpa using hj) h1u (by omega) (by unfold maxLen; omega) (by omega) hbase _ rfl ?_)
    all_goals
      intro g' c' w1 hown hgrow hat hlt
      go_wp2
      go_ret
      refine ⟨g', c', rfl, hown, hgrow, ?_⟩
      rcases hat with h | h
      · exact .inl h
      · exact .inr (by omega)
theorem insB_any (base n c i vb vc : Nat) (A : Option Addr) (xs us : List Value) (w : World) (hr : w.ownsRow base 4 1 (.slice A n c) n xs) (hbase : base ≤ w.heap.size) (hi : i ≤ n) (hn : n ≤ 1048576)
    (hv : w.heap[vb]? = some (.cells us.toArray 4 (0, 0))) (hu : us.length = 1) (h1u : ∀ u ∈ us, u.oneCell' = true) (h1x : ∀ u ∈ xs, u.oneCell' = true) (hne : (Value.slice A n c).ownBlock ≠ some vb) :
    Calls Try.prog 122 #[.slice A n c, .int .i64 i, .slice (some ⟨vb, 0, none⟩) 1 vc] w fun e w' => InsAtB base n i (.slice A n c) xs us w e w' := by
  rcases Nat.lt_or_ge i n with h | h
  · rcases own_none hr with ⟨rfl, rfl, rfl⟩ | ⟨g, rfl⟩
    · omega
    · have hne : g ≠ vb := fun e => hne (by rw [e]; simp [Value.ownBlock])
      rcases Nat.lt_or_ge c (n + 1) with h1 | h1
      · exact insB_grow base n c i vb vc g xs us w hr hbase h hn h1 hv hu h1u h1x
      · exact insB_room base n c i vb vc g xs us w hr hbase h hn h1 hv hu h1u h1x hne
  · obtain rfl : i = n := by omega
    exact insB_end base i c vb vc A xs us w hr hbase hn hv hu h1u
end Go.Proofs.Ytpgmiokdlloinaa

-- SlB: A list of flags by name, as it lies in memory, and putting one into it. No statement of the program is proved here.
namespace Go.Proofs.Ytpgmiokdlloinaa
set_option maxRecDepth 100000
set_option linter.unusedVariables false
set_option linter.unusedSimpArgs false
open Go.RowKit

def vbs (bs : List (Int × Bool)) : List Value := bs.map fun p => .bool p.2
def kbs (bs : List (Int × Bool)) : List Int := bs.map (·.1)
theorem kbs_len (bs : List (Int × Bool)) : (kbs bs).length = bs.length := by simp [kbs]
theorem vbs_len (bs : List (Int × Bool)) : (vbs bs).length = bs.length := by simp [vbs]
theorem vbs_put (bs : List (Int × Bool)) (i : Nat) (q : Int × Bool) : putAt (vbs bs) [.bool q.2] (i * 1) = vbs (insP bs i q) := by
  unfold vbs putAt
  rw [insP_map]
  unfold insP
  simp
theorem kbs_put (bs : List (Int × Bool)) (i : Nat) (q : Int × Bool) : putAt ((kbs bs).map (Value.int .i64)) [.int .i64 q.1] (i * 1) = (kbs (insP bs i q)).map (Value.int .i64) := by
  unfold kbs putAt
  rw [insP_map, insP_map]
  unfold insP
  simp
theorem vbs_one (bs : List (Int × Bool)) : ∀ u ∈ vbs bs, u.oneCell' = true := by
  intro u hu
  obtain ⟨p, _, rfl⟩ := List.mem_map.1 hu
  rfl
/-- a list of flags by name, in memory of the call's own from lo on. -/
structure SLB (w : World) (lo : Nat) (R : SR) (bs : List (Int × Bool)) : Prop where
  keys : OwnI w lo R.Ak bs.length R.ck (kbs bs)
  vals : w.ownsRow lo 4 1 (.slice R.Av bs.length R.cv) bs.length (vbs bs)
  rise : RiseI (kbs bs)
  len : bs.length ≤ 2000
theorem SLB.nil (w : World) (lo : Nat) : SLB w lo SR0 [] := ⟨OwnI.nil _ _, World.ownsRow_nil _ _ _ _, List.Pairwise.nil, by simp⟩
theorem SLB.lt {w : World} {lo : Nat} {R : SR} {bs : List (Int × Bool)} (h : SLB w lo R bs) (g : Nat) (hg : R.at_ g) : lo ≤ g ∧ g < w.heap.size := by
  rcases hg with ⟨a, ha, rfl⟩ | ⟨a, ha, rfl⟩
  · exact h.keys.lt _ (by rw [ha]; rfl)
  · exact h.vals.lt _ (by rw [ha]; rfl)
theorem SLB.touch {S : Nat → Prop} {w w' : World} {lo : Nat} {R : SR} {bs : List (Int × Bool)} (h : SLB w lo R bs) (t : Touch S w w') (h1 : ∀ g, R.at_ g → ¬ S g) : SLB w' lo R bs :=
  ⟨h.keys.touch t (fun g hg => h1 g (SR.kvAt R bs.length g hg)), own_touch h.vals t (fun g hg => h1 g (SR.vvAt R bs.length g hg)), h.rise, h.len⟩
theorem SLB.below {w w' : World} {lo : Nat} {R : SR} {bs : List (Int × Bool)} (h : SLB w lo R bs) (hb : Below w.heap.size w w') : SLB w' lo R bs :=
  h.touch (S := fun _ => False) (Touch.of_below hb) (fun _ _ h => h)
theorem SLB.not_at {w : World} {lo g : Nat} {R : SR} {bs : List (Int × Bool)} {t : TypeId} {cs : Array Value} (h : SLB w lo R bs) (hb : Box w g t cs) (h1 : t ≠ 2) (h2 : t ≠ 4) : ¬ R.at_ g := fun e => by
  rcases e with ⟨a, ha, e⟩ | ⟨a, ha, e⟩
  · exact own_box_ne h.keys hb h1 (by rw [ha, ← e]; rfl)
  · exact own_box_ne h.vals hb h2 (by rw [ha, ← e]; rfl)
theorem lowB_len (bs : List (Int × Bool)) (m : Int) : lowI (kbs bs) m ≤ bs.length := by have := lowI_le (kbs bs) m; rw [kbs_len] at this; exact this
/-- what a putting leaves, once both rows are made. -/
theorem putB_fin (p lo : Nat) (R : SR) (bs : List (Int × Bool)) (m : Int) (x : Bool) (w w5 w6 : World) (h : SLB w lo R bs) (hp : p < w.heap.size) (hl : bs.length < 2000) (ht : hitI (kbs bs) m = false)
    (g4 c4 g6 c6 : Nat) (T5 : Touch (fun g => g = p ∨ R.at_ g) w w5)
    (P5 : Box w5 p 95 #[.slice (some ⟨g4, 0, none⟩) (bs.length + 1) c4, R.vv bs.length])
    (K5 : OwnI w5 lo (some ⟨g4, 0, none⟩) (bs.length + 1) c4 (kbs (insP bs (lowI (kbs bs) m) (m, x)))) (G4 : R.at_ g4 ∨ w.heap.size ≤ g4)
    (V5 : w5.ownsRow lo 4 1 (R.vv bs.length) bs.length (vbs bs))
    (t6 : Touch (fun g => (R.vv bs.length).ownBlock = some g) w5 w6)
    (o6 : w6.ownsRow lo 4 1 (.slice (some ⟨g6, 0, none⟩) (bs.length + 1) c6) (bs.length + 1) (vbs (insP bs (lowI (kbs bs) m) (m, x)))) (G6 : R.at_ g6 ∨ w.heap.size ≤ g6) :
    Box w6 p 95 #[.slice (some ⟨g4, 0, none⟩) (bs.length + 1) c4, R.vv bs.length] ∧
    ∃ R', Box (w6.setCell ⟨p, 1, none⟩ (.slice (some ⟨g6, 0, none⟩) (bs.length + 1) c6)) p 95 #[R'.kv (bs.length + 1), R'.vv (bs.length + 1)] ∧
      SLB (w6.setCell ⟨p, 1, none⟩ (.slice (some ⟨g6, 0, none⟩) (bs.length + 1) c6)) lo R' (insP bs (lowI (kbs bs) m) (m, x)) ∧ R'.from_ R w.heap.size ∧ Touch (fun g => g = p ∨ R.at_ g) w (w6.setCell ⟨p, 1, none⟩ (.slice (some ⟨g6, 0, none⟩) (bs.length + 1) c6)) := by
  have hvp : (R.vv bs.length).ownBlock ≠ some p := own_box_ne V5 P5 (by decide)
  have s5 := T5.size
  have P6 : Box w6 p 95 #[.slice (some ⟨g4, 0, none⟩) (bs.length + 1) c4, R.vv bs.length] := (t6.block p (by omega) (fun e => hvp e)).trans P5
  have K6 := K5.touch t6 (fun g hg e => own_own_ne K5 V5 (by decide) g hg e)
  have g4p : g4 ≠ p := fun e => own_box_ne K6 P6 (by decide) (by rw [e]; rfl)
  have g6p : g6 ≠ p := fun e => own_box_ne o6 P6 (by decide) (by rw [e]; rfl)
  obtain ⟨w7, hw7⟩ : ∃ w7, w6.setCell ⟨p, 1, none⟩ (.slice (some ⟨g6, 0, none⟩) (bs.length + 1) c6) = w7 := ⟨_, rfl⟩
  have t7 : Touch (fun g => g = p) w6 w7 := by rw [← hw7]; exact touch_set w6 p 1 _ rfl
  have P7 : Box w7 p 95 #[.slice (some ⟨g4, 0, none⟩) (bs.length + 1) c4, .slice (some ⟨g6, 0, none⟩) (bs.length + 1) c6] := by rw [← hw7]; exact P6.set_ 1 _
  have K7 := K6.touch t7 (fun g hg e => g4p (by have e2 : g4 = g := (by simpa [Value.ownBlock] using hg); omega))
  have O7 := own_touch o6 t7 (fun g hg e => g6p (by have e2 : g6 = g := (by simpa [Value.ownBlock] using hg); omega))
  rw [hw7]
  have T7 : Touch (fun g => g = p ∨ R.at_ g) w w7 := (T5.trans (t6.mono (fun k hk => .inr (R.vvAt _ _ hk)))).trans (t7.mono (fun k hk => .inl hk))
  have hfrom : (⟨some ⟨g4, 0, none⟩, c4, some ⟨g6, 0, none⟩, c6⟩ : SR).from_ R w.heap.size := fun g hg => by
    rcases hg with ⟨a, ha, e⟩ | ⟨a, ha, e⟩
    · cases ha; subst e; exact G4
    · cases ha; subst e; exact G6
  have hli := lowB_len bs m
  have hln : (insP bs (lowI (kbs bs) m) (m, x)).length = bs.length + 1 := insP_len _ _ _ hli
  refine ⟨P6, ⟨some ⟨g4, 0, none⟩, c4, some ⟨g6, 0, none⟩, c6⟩, P7, ⟨by rw [hln]; exact K7, by rw [hln]; exact O7, ?_, by omega⟩, hfrom, T7⟩
  have hm : m ∉ kbs bs := fun hm => by rw [(hitI_mem _ _ h.rise).2 hm] at ht; cases ht
  have e : kbs (insP bs (lowI (kbs bs) m) (m, x)) = insI (kbs bs) m := by rw [← insP_low _ _ hm]; exact insP_map _ _ _ _
  rw [e]
  exact insI_rise _ _ h.rise hm
set_option maxHeartbeats 2000000 in
theorem putB_any (p lo : Nat) (R : SR) (bs : List (Int × Bool)) (m : Int) (x : Bool) (w : World) (hx : Box w p 95 #[R.kv bs.length, R.vv bs.length]) (h : SLB w lo R bs) (hlo : lo ≤ w.heap.size) (hl : bs.length < 2000) :
    Calls Try.prog 100 #[.pointer (some ⟨p, 0, none⟩), .int .i64 m, .bool x] w fun e w' =>
      (hitI (kbs bs) m = true ∧ e = .returned (.bool false) ∧ Below w.heap.size w w') ∨
      (hitI (kbs bs) m = false ∧ e = .returned (.bool true) ∧ ∃ R', Box w' p 95 #[R'.kv (bs.length + 1), R'.vv (bs.length + 1)] ∧ SLB w' lo R' (insP bs (lowI (kbs bs) m) (m, x)) ∧ R'.from_ R w.heap.size ∧ Touch (fun g => g = p ∨ R.at_ g) w w') := by
  have mixed : Try.prog.follows .mixedOrders = true := by kernel_rfl
  have hlen := h.len
  have hp := hx.lt
  have P1 := Lib.hid hx
  have HS := Lib.hid h
  have HRL := Lib.hid (fun g hg => (h.lt g hg).2)
  clear hx h
  have q0 := P1.out.cell 0
  have q1 := P1.out.cell 1
  unfold SR.kv at q0
  unfold SR.vv at q1
  simp at q0 q1
  go_enter Try.func100, Try.ntmps100
  go_wp2_with fail
  refine (search_any R.Ak bs.length R.ck (kbs bs) m w.heap.size w (by omega) HS.out.keys.ints HS.out.rise).mono ?_
  rintro e w2 ⟨rfl, nq, hq⟩
  have b2 : Below w.heap.size w w2 := by rw [hq]; exact below_drewN (Below.refl _ _) nq
  have P2 := Lib.hid (P1.out.below b2 (by omega))
  have S2 := Lib.hid (HS.out.below b2)
  have B2 := Lib.hid b2
  have hs2 : w2.heap.size = w.heap.size := by rw [hq]; simp
  clear hq b2 q0 q1
  have q0 := P2.out.cell 0
  have q1 := P2.out.cell 1
  have p0 := P2.out.free
  unfold SR.kv at q0
  unfold SR.vv at q1
  simp at q0 q1
  obtain ⟨ht, hht⟩ : ∃ ht, hitI (kbs bs) m = ht := ⟨_, rfl⟩
  have HT := Lib.hid hht
  rw [hht]
  clear hht
  obtain ⟨i, hi⟩ : ∃ i, lowI (kbs bs) m = i := ⟨_, rfl⟩
  have hil : i ≤ bs.length := by rw [← hi]; exact lowB_len bs m
  have HI := Lib.hid hi
  rw [hi]
  clear hi
  cases ht with
  | true =>
    go_wp2
    go_ret
    exact .inl ⟨HT.out, rfl, B2.out⟩
  | false =>
    -- the key's own block
    obtain ⟨w3, hw3⟩ : ∃ w3, w2.alloc (.cells #[.int .i64 m] 2) = w3 := ⟨_, rfl⟩
    have b3 : Below w2.heap.size w2 w3 := hw3 ▸ (Below.refl w2.heap.size w2).alloc (Nat.le_refl _) _
    have y3 : Box w3 w2.heap.size 2 #[.int .i64 m] := hw3 ▸ heap_alloc_new _ _
    have s3 : w3.heap.size = w.heap.size + 1 := by rw [← hw3]; simp [hs2]
    rw [hs2] at y3
    have P3 := Lib.hid (P2.out.below b3 (by omega))
    have S3 := Lib.hid (S2.out.below b3)
    have B3 := Lib.hid (B2.out.trans (b3.mono (by omega)))
    have Y3 := Lib.hid y3
    clear b3 y3
    go_wp2_with fail
    refine (insI_any lo bs.length R.ck i w.heap.size _ R.Ak ((kbs bs).map (Value.int .i64)) [.int .i64 m] w3 S3.out.keys (by omega) hil (by omega) Y3.out rfl (by intro u hu; simp at hu; subst hu; rfl) (kvs_one _) (fun e => by have := (S2.out.keys.lt _ e).2; omega)).mono ?_
    rintro e w4 ⟨g4, c4, rfl, o4, gr4, at4⟩
    rw [show ([.int .i64 m] : List Value) = [.int .i64 ((m, x) : Int × Bool).1] from rfl, kbs_put] at o4
    have gk4 := gr4
    have gr4 : Touch (fun g => R.at_ g) w3 w4 := (Touch.of_grown gr4).mono (fun k hk => R.kvAt _ _ hk.symm)
    have np_ : ¬ R.at_ p := S3.out.not_at P3.out (by decide) (by decide)
    have s4 : w3.heap.size ≤ w4.heap.size := gr4.size
    have P4 := Lib.hid (show Box w4 p _ _ from (gr4.block p (by omega) np_).trans P3.out)
    have V4 := Lib.hid (own_touch S3.out.vals (S := fun g => (R.kv bs.length).ownBlock = some g) ((Touch.of_grown (show w3.grownBy w4 (R.kv bs.length).ownBlock from gk4)).mono (fun k hk => hk.symm)) (fun g hg hk => own_own_ne S3.out.keys S3.out.vals (by decide) g hk hg))
    have V4p : (R.vv bs.length).ownBlock ≠ some p := own_box_ne V4.out P4.out (by decide)
    have K4 := Lib.hid (show OwnI w4 lo (some ⟨g4, 0, none⟩) (bs.length + 1) c4 _ from o4)
    have g4p : g4 ≠ p := fun e => own_box_ne o4 P4.out (by decide) (by rw [e]; rfl)
    have G4 := Lib.hid at4
    clear o4 gk4 at4 q0 q1 p0
    have f4 := P4.out.free
    have q4 := P4.out.cell 0
    simp at q4
    obtain ⟨w5, hw5⟩ : ∃ w5, w4.setCell ⟨p, 0, none⟩ (.slice (some ⟨g4, 0, none⟩) (bs.length + 1) c4) = w5 := ⟨_, rfl⟩
    have t5 : Touch (fun g => g = p) w4 w5 := by rw [← hw5]; exact touch_set w4 p 0 _ rfl
    have s5 : w5.heap.size = w4.heap.size := by rw [← hw5]; simp
    have P5 := Lib.hid (show Box w5 p _ #[.slice (some ⟨g4, 0, none⟩) (bs.length + 1) c4, R.vv bs.length] from by rw [← hw5]; exact P4.out.set_ 0 _)
    have V5 := Lib.hid (own_touch V4.out t5 (fun g hg hk => V4p (by rw [← hk]; exact hg)))
    have K5 := Lib.hid (K4.out.touch t5 (fun g hg hk => g4p (by have e : g4 = g := (by simpa [Value.ownBlock] using hg); omega)))
    have T5 := Lib.hid (show Touch (fun g => g = p ∨ R.at_ g) w w5 from ((Touch.of_below B3.out).trans (gr4.mono (fun k hk => .inr hk))).trans (t5.mono (fun k hk => .inl hk)))
    have q1 := P5.out.cell 1
    have f1 := P5.out.free
    unfold SR.vv at q1
    simp at q1
    obtain ⟨w51, hw51⟩ : ∃ w51, w5.alloc (.cells #[.bool x] 4) = w51 := ⟨_, rfl⟩
    have b51 : Below w5.heap.size w5 w51 := hw51 ▸ (Below.refl _ _).alloc (Nat.le_refl _) _
    have V6 := Lib.hid (show w51.ownsRow lo 4 1 (.slice R.Av bs.length R.cv) bs.length (vbs bs) from hw51 ▸ V5.out.alloc _)
    have y6 : w51.heap[w5.heap.size]? = some (.cells ([.bool x] : List Value).toArray 4 (0, 0)) := hw51 ▸ heap_alloc_new w5 _
    rw [s5] at y6
    have Y6 := Lib.hid y6
    have z6 : w51.heap.size = w4.heap.size + 1 := by rw [← hw51, ← s5]; simp
    have VB := Lib.hid (fun g hg => (V5.out.lt g hg).2)
    have B51 := Lib.hid b51
    clear gr4 t5 y6 b51
    have hp4 : p < w4.heap.size := by omega
    have hp5 : p < w5.heap.size := by omega
    have hpn : ¬ (p = w4.heap.size) := by omega
    go_wp2_with fail
    refine (insB_any lo bs.length R.cv i w4.heap.size _ R.Av (vbs bs) [.bool x] w51 V6.out (by omega) hil (by omega) Y6.out rfl (by intro u hu; simp at hu; subst hu; rfl) (vbs_one _) (fun e => by have := VB.out _ e; omega)).mono ?_
    rintro e w6 ⟨g6, c6, rfl, o6, gr6, at6⟩
    rw [show ([.bool x] : List Value) = [.bool ((m, x) : Int × Bool).2] from rfl, vbs_put, ← HI.out] at o6
    have PF := putB_fin p lo R bs m x w w5 w6 HS.out hp hl HT.out g4 c4 g6 c6 T5.out P5.out (by rw [HI.out]; exact K5.out) (G4.out.elim (fun e => .inl (R.kvAt _ _ e)) (fun e => .inr (by omega))) V5.out
      ((Touch.of_below B51.out).trans ((Touch.of_grown gr6).mono (fun k hk => hk.symm))) o6 (at6.elim (fun e => .inl (R.vvAt _ _ e)) (fun e => .inr (by omega)))
    have q6 := PF.1.cell 1
    have f6 := PF.1.free 1
    simp at q6
    have PF := Lib.hid PF.2
    clear q1 f1 o6 gr6 at6 hw51 hw5 f4 q4
    go_wp2
    go_ret
    exact .inr ⟨HT.out, rfl, PF.out⟩
end Go.Proofs.Ytpgmiokdlloinaa

-- IterB: The iterator of the list of flags.
namespace Go.Proofs.Ytpgmiokdlloinaa
set_option maxRecDepth 20000
set_option linter.unusedVariables false
set_option linter.unusedSimpArgs false
open Go.RowKit Go.Shelf
attribute [local go_sem] Oper.semAt_some

/-- every block below n but two is as it was. -/
def KpT (cb cd n : Nat) (A B : World) : Prop := A.heap.size ≤ B.heap.size ∧ ∀ k, k < n → k ≠ cb ∧ k ≠ cd → B.heap[k]? = A.heap[k]?
theorem KpT.refl (cb cd n : Nat) (A : World) : KpT cb cd n A A := ⟨Nat.le_refl _, fun _ _ _ => rfl⟩
theorem KpT.trans {cb cd n : Nat} {A B C : World} (h : KpT cb cd n A B) (k : KpT cb cd n B C) : KpT cb cd n A C := ⟨Nat.le_trans h.1 k.1, fun i hi hc => (k.2 i hi hc).trans (h.2 i hi hc)⟩
theorem KpT.put {cb cd n : Nat} {w : World} (hn : n ≤ w.heap.size) (W : World) (l : Nat) (o o' : Obj) (hl : w.heap.size ≤ l) (h : W.heap[l]? = some o) (_ : o.isCells = false) (_ : o.isWalk = false) : KpT cb cd n W (W.putObj l o') := by
  have hg := grownBy_putObj' W l o'
  exact ⟨hg.size, fun k hk _ => by
    have hl2 := (Array.getElem?_eq_some_iff.1 h).1
    exact hg.block k (by omega) (fun e => by cases e; omega)⟩
theorem KpT.cell {cb cd n : Nat} {A B : World} (h : KpT cb cd n A B) {a : Addr} (hn : a.block < n) (hc : a.block ≠ cb ∧ a.block ≠ cd) : B.cell? a = A.cell? a := World.cell?_of_block (h.2 _ hn hc)
theorem KpT.box {cb cd n g : Nat} {A B : World} {t : TypeId} {cs : Array Value} (h : KpT cb cd n A B) (hb : Box A g t cs) (hg : g < n) (hc : g ≠ cb ∧ g ≠ cd) : Box B g t cs := (h.2 g hg hc).trans hb
def bAt (bs : List (Int × Bool)) (k : Nat) : Int × Bool := bs[k]?.getD (0, false)
theorem bAt_mem (bs : List (Int × Bool)) (k : Nat) (h : k < bs.length) : bAt bs k ∈ bs := by unfold bAt; rw [List.getElem?_eq_getElem h]; exact List.getElem_mem h
/-- what the k-th round is handed. -/
def encB (bs : List (Int × Bool)) (k : Nat) : Array Value := #[.int .i64 (bAt bs k).1, .bool (bAt bs k).2]
theorem kbs_at (bs : List (Int × Bool)) (i : Nat) (h : i < bs.length) : (kbs bs)[i]?.getD 0 = bs[i].1 := by unfold kbs; simp [h]

set_option maxHeartbeats 2000000 in
theorem allB1_in (F : Fence) (n : Nat) (h7 : F.fn 101) (hro : F.round = none) (hn : 1 ≤ n) (l Bs n₀ cb cd p lo : Nat) (R : SR) (bs : List (Int × Bool))
    (J Jx : List Nat → World → Prop) (W : World) (hW0 : n₀ ≤ W.heap.size)
    (hY : ∀ pre x W1, J pre W1 → pre.length < bs.length → YieldAt F (n - 1) Try.prog l (encB bs x) W1 fun e W' =>
      (e = .returned (.bool true) ∧ J (pre ++ [x]) W' ∧ KpT cb cd n₀ W1 W') ∨ (e = .returned (.bool false) ∧ Jx (pre ++ [x]) W'))
    (hBs : Box W Bs 134 #[.pointer (some ⟨p, 0, none⟩)]) (hB0 : Bs < n₀) (hB1 : Bs ≠ cb ∧ Bs ≠ cd)
    (hP : Box W p 95 #[R.kv bs.length, R.vv bs.length]) (hP0 : p < n₀) (hP1 : p ≠ cb ∧ p ≠ cd)
    (hS : SLB W lo R bs) (hR : ∀ g, R.at_ g → g < n₀ ∧ g ≠ cb ∧ g ≠ cd) (h0 : J [] W) :
    CallsIn F n Try.prog 101 #[.func (.yield l) #[] #[], .pointer (some ⟨Bs, 0, none⟩)] W fun e W' => (∃ v, e = .returned v) ∧
      ((∃ ys, ys = List.range bs.length ∧ J ys W') ∨ (∃ pre, (∃ k, k ≤ bs.length ∧ pre = List.range k) ∧ Jx pre W')) := by
  have hlen := hS.len
  -- what a round reads, in whatever world the rounds have left
  have hrd : ∀ W', KpT cb cd n₀ W W' → W'.cell? ⟨Bs, 0, none⟩ = some (.pointer (some ⟨p, 0, none⟩)) ∧ W'.cell? ⟨p, 1, none⟩ = some (.slice R.Av bs.length R.cv) := fun W' hk => by
    have h1 := (hk.box hBs hB0 hB1).cell 0
    have h2 := (hk.box hP hP0 hP1).cell 1
    unfold SR.vv at h2
    simpa using ⟨h1, h2⟩
  have hrk : ∀ W', KpT cb cd n₀ W W' → ∀ k, k < bs.length → ∃ g, R.Ak = some ⟨g, 0, none⟩ ∧ W'.cell? ⟨g, k, none⟩ = some (.int .i64 (bAt bs k).1) := fun W' hk k hlt => by
    obtain ⟨g, hg, _⟩ := hS.keys.form (by omega)
    have ho := hS.keys
    rw [hg] at ho
    have hgg := hR g (.inl ⟨_, hg, rfl⟩)
    refine ⟨g, hg, ?_⟩
    rw [hk.cell (a := ⟨g, k, none⟩) hgg.1 hgg.2, ho.cell hlt, kbs_at bs k hlt]
    unfold bAt
    rw [List.getElem?_eq_getElem hlt]; rfl
  have hrv : ∀ W', KpT cb cd n₀ W W' → ∀ k, k < bs.length → ∃ g, R.Av = some ⟨g, 0, none⟩ ∧ W'.cell? ⟨g, k, none⟩ = some (.bool (bAt bs k).2) := fun W' hk k hlt => by
    obtain ⟨g, cap, hgv, _⟩ := World.ownsRow.form hS.vals (by omega)
    have hg : R.Av = some ⟨g, 0, none⟩ := by injection hgv
    have ho := hS.vals
    rw [hg] at ho
    have hgg := hR g (.inr ⟨_, hg, rfl⟩)
    refine ⟨g, hg, ?_⟩
    rw [hk.cell (a := ⟨g, k, none⟩) hgg.1 hgg.2, World.ownsRow.cellAt ho _ (by omega)]
    unfold bAt vbs
    rw [List.getElem?_map, List.getElem?_eq_getElem hlt]; rfl
  have q0 := hBs.cell 0
  have q1 := hP.cell 0
  unfold SR.kv at q1
  simp at q0 q1
  refine callsIn_of_wp Try.func101 rfl h7 ?_ hro
  simp only [Try.ntmps101, List.size_toArray, List.length_cons, List.length_nil, Nat.reduceAdd, Nat.reduceSub, Array.replicate_succ, Array.replicate_zero, List.push_toArray, List.append_toArray, List.nil_append, List.cons_append]
  obtain ⟨Ak, ck, Av, cv⟩ := R
  simp only at hrd hrk hrv q1
  have RD := Lib.hid hrd
  have RK := Lib.hid hrk
  have RV := Lib.hid hrv
  clear hrd hrk hrv hBs hP hS hR
  gi_wp2
  gi_loopw [10] (fun i wr => ∃ k : Nat, k ≤ bs.length ∧ i = .int .i64 k ∧ J (List.range k) wr ∧ KpT cb cd n₀ W wr)
    (fun i _ => bs.length - (intOf i).toNat)
  case atStart => exact ⟨0, Nat.zero_le _, rfl, h0, KpT.refl _ _ _ _⟩
  case round =>
    obtain ⟨k, hk, rfl, hJs, hnx⟩ := hrel
    have hsz := hnx.1
    have KX := Lib.hid hnx
    by_cases hlt : k < bs.length
    · obtain ⟨c0, c1⟩ := RD.out wr hnx
      obtain ⟨g, rfl, c2⟩ := RK.out wr hnx k hlt
      obtain ⟨gv, rfl, c3⟩ := RV.out wr hnx k hlt
      obtain ⟨fn, tmps, assign, body, hy, hR⟩ := hY (List.range k) k _ hJs (by simpa using hlt)
      unfold encB at hy
      clear hnx
      gi_wp2
      refine hR.mono ?_
      rintro e W3 (⟨rfl, hJ3, hk3⟩ | ⟨rfl, hJx3⟩)
      · gi_wp2
        go_roundw
        case rel => exact ⟨k + 1, by omega, by go_num, by rw [range_take]; exact hJ3, KX.out.trans hk3⟩
        case measure => simp [intOf]; omega
      · gi_wp2
        refine bodyPost_ret (results_none rfl _ _ _) rfl ?_
        exact ⟨⟨_, rfl⟩, .inr ⟨_, ⟨k + 1, by omega, (range_take k).symm⟩, hJx3⟩⟩
    · obtain rfl : k = bs.length := by omega
      gi_wp2
      go_end0
      exact ⟨⟨_, rfl⟩, .inl ⟨_, rfl, hJs⟩⟩
theorem allB_any (p : Nat) (w : World) :
    Calls Try.prog 68 #[.pointer (some ⟨p, 0, none⟩)] w fun e w' => e = .returned (.func (.func 101) #[] #[.pointer (some ⟨w.heap.size, 0, none⟩)]) ∧ w.alloc (.cells #[.pointer (some ⟨p, 0, none⟩)] 134) = w' := by
  go_enter Try.func68, Try.ntmps68
  go_wp2
  go_ret
  exact ⟨rfl, rfl⟩
theorem allB_stops (n : Nat) (hn : 1 ≤ n) (Bs n₀ cb cd p lo : Nat) (R : SR) (bs : List (Int × Bool)) (w : World) (hW0 : n₀ ≤ w.heap.size)
    (hBs : Box w Bs 134 #[.pointer (some ⟨p, 0, none⟩)]) (hB0 : Bs < n₀) (hB1 : Bs ≠ cb ∧ Bs ≠ cd)
    (hP : Box w p 95 #[R.kv bs.length, R.vv bs.length]) (hP0 : p < n₀) (hP1 : p ≠ cb ∧ p ≠ cd)
    (hS : SLB w lo R bs) (hR : ∀ g, R.at_ g → g < n₀ ∧ g ≠ cb ∧ g ≠ cd) :
    SeqStopsK Fence.wide n Try.prog 101 #[.pointer (some ⟨Bs, 0, none⟩)] (encB bs) (KpT cb cd n₀) (fun ys => ys = List.range bs.length) (fun pre => ∃ k, k ≤ bs.length ∧ pre = List.range k) bs.length w := fun l J Jx W hW hJ _ hY h0 =>
  allB1_in Fence.wide n trivial rfl hn l Bs n₀ cb cd p lo R bs J Jx W (Nat.le_trans hW0 hW.size) hY (hBs.below hW (by omega)) hB0 hB1 (hP.below hW (by omega)) hP0 hP1 (hS.below hW) hR h0
end Go.Proofs.Ytpgmiokdlloinaa

-- Clone: slices.Clone at int64, as the program calls it. No statement of the program is proved here.
namespace Go.Proofs.Ytpgmiokdlloinaa
set_option maxRecDepth 100000
set_option linter.unusedVariables false
set_option linter.unusedSimpArgs false
open Go.RowKit

set_option maxHeartbeats 2000000 in
theorem clone_any (A : Option Addr) (n c : Nat) (xs : List Int) (B : Nat) (w : World) (hn : n ≤ 1048576) (hB : B ≤ w.heap.size) (hb : Ints w B A n xs) :
    Calls Try.prog 99 #[.slice A n c] w fun e w' => ∃ A' n' c', e = .returned (.slice A' n' c') ∧ OwnI w' w.heap.size A' n' c' xs ∧ Below w.heap.size w w' := by
  obtain ⟨i0, hi0, hz0, hz1, hz2⟩ := info_parts Try.infoInsI
  have hlen := hb.1
  have hq : ∀ (w : World) (a : Option Addr) (n c n' c' : Nat), (binOp .eql 29 (.slice a n c) (.slice none n' c')).run Try.prog w = .ok (.bool a.isNone) w := fun w a n c n' c' => Lib.run_eql_slice_nil w _ _ a n c n' c' Try.underlying29
  have mixed : Try.prog.follows .mixedOrders = true := by kernel_rfl
  have HB := Lib.hid (hb.more hB)
  clear hb
  cases A with
  | none =>
    have hn0 : n = 0 := by
      rcases Nat.eq_zero_or_pos n with h | h
      · exact h
      · obtain ⟨b, off, e, _⟩ := HB.out.2 h
        cases e
    subst hn0
    have hx : xs = [] := List.length_eq_zero_iff.1 hlen
    subst hx
    go_enter Try.func99, Try.ntmps99
    go_wp2
    go_ret
    exact ⟨none, 0, 0, rfl, World.ownsRow_nil _ _ _ _, Below.refl _ _⟩
  | some a =>
    go_enter Try.func99, Try.ntmps99
    go_wp2_with (at_builtin; refine wpList_append_own _ rfl _ _ 29 rfl w.heap.size 2 i0 (.int .i64 0) 1 8 Try.underlying29 hi0 hz0 hz1 hz2 rfl (by decide) _ _ _ rfl (World.ownsRow_made w #[] 0 (Nat.le_refl _) (Nat.zero_le _) rfl) a n c (xs.map (Value.int .i64)) rfl ?qc1 ?qc2 ?qc3 ?qc4 ?qc5 ?qc6 ?_)
    case qc1 => simp; omega
    case qc2 =>
      intro j u hj
      have hjn : j < n := by
        have := (List.getElem?_eq_some_iff.1 hj).1
        simp at this
        omega
      obtain ⟨b, off, e, hb, hc⟩ := (HB.out.alloc (Nat.le_refl _) (.cells #[] 2)).at_ hjn
      cases e
      rw [Addr.add_lit]
      rw [List.getElem?_map, List.getElem?_eq_getElem (by omega)] at hj
      rw [List.getElem?_eq_getElem (by omega)] at hc
      cases hj
      exact hc
    case qc3 => intro u hu; obtain ⟨x, _, rfl⟩ := List.mem_map.1 hu; rfl
    case qc4 => unfold maxLen; omega
    case qc5 => omega
    case qc6 => simp
    intro v' w1 hown hgrow hnil
    have H := Lib.hid hown
    obtain ⟨A', c', rfl⟩ := own_slice hown
    have hb2 := ((Below.refl w.heap.size w).alloc (Nat.le_refl _) (.cells #[] 2)).grown hgrow (by simp) (by intro k hk; simp [Value.ownBlock] at hk; omega)
    have H2 := Lib.hid hb2
    clear hown hgrow hnil hb2
    go_wp2
    go_ret
    exact ⟨A', n, c', rfl, H.out, H2.out⟩
end Go.Proofs.Ytpgmiokdlloinaa

-- ReachF: The program's way through the nodes that are reached.
namespace Go.Proofs.Ytpgmiokdlloinaa
set_option maxRecDepth 100000
set_option linter.unusedVariables false
set_option linter.unusedSimpArgs false
open Go.RowKit

/-- all flags are up. -/
def allB (bs : List (Int × Bool)) : Bool := bs.all (·.2)
theorem allB_ins (bs : List (Int × Bool)) (i : Nat) (q : Int × Bool) : allB (insP bs i q) = (allB bs && q.2) := by
  unfold allB insP
  conv => rhs; rw [← List.take_append_drop i bs]
  rw [List.all_append, List.all_append, List.all_cons]
  cases (List.take i bs).all (·.2) <;> cases (List.drop i bs).all (·.2) <;> cases q.2 <;> rfl
theorem kbs_ins (bs : List (Int × Bool)) (m : Int) (x : Bool) (h : RiseI (kbs bs)) (ht : hitI (kbs bs) m = false) : m ∉ kbs bs ∧ kbs (insP bs (lowI (kbs bs) m) (m, x)) = insI (kbs bs) m := by
  have hm : m ∉ kbs bs := fun hm => by rw [(hitI_mem _ _ h).2 hm] at ht; cases ht
  exact ⟨hm, by rw [← insP_low _ _ hm]; exact insP_map _ _ _ _⟩
theorem NV.kids {w : World} {B : Nat} {x : NV} (h : NodeIn w B x.v x.nd) : Kids w B x.Ak x.nk x.nd.kids := by
  obtain ⟨Ap, np, cp, Ak, nk, ck, e, _, _, _, _, h2⟩ := h
  unfold NV.v at e
  injection e with e
  simp at e
  obtain ⟨⟨e1, e2, e3⟩, e4, e5, e6⟩ := e
  rw [e4, e5]
  exact h2
/-- what stands under a name in the list is what stands there among the cells. -/
theorem NodesIs.hit {w : World} {lo : Nat} {R : SR} {ps : List (Int × NV)} {cs : List (Int × List Int)} (h : NodesIs w lo R ps cs) (hr : Right cs) {m : Int} {x : NV} {b : Bool} (hat : AtIs ps m x b) : HitIs cs m x.nd b ∧ Kids w w.heap.size x.Ak x.nk x.nd.kids := by
  have hf := h.find hr m
  rcases hat with ⟨ht, rfl, hi, he⟩ | ⟨ht, rfl, rfl⟩
  · obtain ⟨hi2, hfe⟩ := hf.1 ht
    refine ⟨.inl ⟨by omega, ?_⟩, NV.kids (h.sl.nodes (m, x) (by rw [← he]; exact List.getElem_mem hi))⟩
    have h1 := (h.at_ _ hi).2
    rw [List.getElem?_eq_getElem hi, he] at h1
    rw [hfe]
    exact h1
  · exact ⟨.inr ⟨hf.2 ht, rfl, rfl⟩, Kids.none_⟩
/-- how long the list is that stands in a box. -/
def cellLen (w : World) (g : Nat) : Nat := lenOf ((w.cell? ⟨g, 0, none⟩).getD (.int .i64 0))
theorem cellLen_is {w : World} {g : Nat} {t : TypeId} {R : SR} {n : Nat} (h : Box w g t #[R.kv n, R.vv n]) : cellLen w g = n := by
  unfold cellLen
  rw [h.cell 0]
  rfl
theorem SLB.base {w : World} {lo lo' : Nat} {R : SR} {bs : List (Int × Bool)} (h : SLB w lo R bs) (hl : lo' ≤ lo) : SLB w lo' R bs := by
  refine ⟨h.keys.base hl, ⟨h.vals.1, ?_⟩, h.rise, h.len⟩
  rcases h.vals.2 with h | ⟨g, cap, cur, hv, hg, r⟩
  · exact .inl h
  · exact .inr ⟨g, cap, cur, hv, Nat.le_trans hl hg, r⟩
set_option maxHeartbeats 4000000 in
theorem reachedFrom_any (lo0 : Nat) (R : SR) (ps : List (Int × NV)) (cs : List (Int × List Int)) (Ar : Option Addr) (nr cr : Nat) (roots : List Int) (B : Nat) (w : World) (hD : NodesIs w lo0 R ps cs) (hR : Right cs) (hnr : nr ≤ 80) (hcr : nr ≤ cr) (hAr : Ar = none → cr = 0) (hB : B ≤ w.heap.size) (hbr : Ints w B Ar nr roots) :
    Calls Try.prog 67 #[.agg #[R.kv ps.length, R.vv ps.length], .slice Ar nr cr] w fun e w' => ∃ R' bs, e = .returned (.agg #[R'.kv bs.length, R'.vv bs.length]) ∧ SLB w' w.heap.size R' bs ∧ Going cs roots (kbs bs) [] (allB bs) ∧ Below w.heap.size w w' := by
  have HD := Lib.hid hD
  have RT := Lib.hid hR
  have hlr := hbr.1
  have hcs : cs.length ≤ 80 := hR.1
  obtain ⟨i0, hi, hz0, hz1, hz2⟩ := info_parts Try.infoI
  have HI := Lib.hid hi
  have HZ0 := Lib.hid hz0
  have HZ1 := Lib.hid hz1
  have HZ2 := Lib.hid hz2
  clear hi hz0 hz1 hz2
  obtain ⟨w0, hw0⟩ : ∃ w0, ((w.alloc (.cells #[R.kv ps.length, R.vv ps.length] 73)).alloc (.cells #[.slice none 0 0, .slice none 0 0] 95)).alloc (.cells #[.slice none 0 0, .slice none 0 0] 95) = w0 := ⟨_, rfl⟩
  have N0 := Lib.hid (show Box w0 w.heap.size 73 #[R.kv ps.length, R.vv ps.length] from hw0 ▸ heap3_0 _ _ _ _)
  have Y0 := Lib.hid (show Box w0 (w.heap.size + 1) 95 #[.slice none 0 0, .slice none 0 0] from hw0 ▸ heap3_1 _ _ _ _)
  have P0 := Lib.hid (show Box w0 (w.heap.size + 1 + 1) 95 #[.slice none 0 0, .slice none 0 0] from hw0 ▸ heap3_2 _ _ _ _)
  have s0 : w0.heap.size = w.heap.size + 3 := hw0 ▸ size3 _ _ _ _
  have B0 := Lib.hid (show Below w.heap.size w w0 from hw0 ▸ below3 _ _ _ _)
  have HBR := Lib.hid ((hbr.more hB).below B0.out)
  clear hD hR hbr
  go_enter Try.func67, Try.ntmps67
  go_wp2_with fail
  clear hw0
  refine (clone_any Ar nr cr roots w.heap.size w0 (by omega) (by omega) HBR.out).mono ?_
  rintro e w2 ⟨A2, n2, c2, rfl, o2, b2⟩
  have hn2 := o2.len
  have s2 := b2.size
  have O2 := Lib.hid o2
  have N2 := Lib.hid (N0.out.below b2 (by omega))
  have Y2 := Lib.hid (Y0.out.below b2 (by omega))
  have P2 := Lib.hid (P0.out.below b2 (by omega))
  have B2 := Lib.hid (B0.out.trans (b2.mono (by omega)))
  clear o2 b2
  go_wp2
  go_loopw [6] (fun t wr => ∃ (At : Option Addr) (nt ct : Nat) (R' : SR) (bs : List (Int × Bool)) (todo : List Int), t = .slice At nt ct ∧ OwnI wr (w.heap.size + 3) At nt ct todo ∧ Box wr (w.heap.size + 1 + 1) 95 #[R'.kv bs.length, R'.vv bs.length] ∧ SLB wr (w.heap.size + 3) R' bs ∧
      Box wr w.heap.size 73 #[R.kv ps.length, R.vv ps.length] ∧ Box wr (w.heap.size + 1) 95 #[.slice none 0 0, .slice none 0 0] ∧ (∀ g, (Value.slice At nt ct).ownBlock = some g → ¬ R'.at_ g) ∧ Going cs roots (kbs bs) todo (allB bs) ∧ nt + 17 * (1360 - bs.length) ≤ 23200 ∧ Below w.heap.size w wr)
    (fun t wr => lenOf t + 17 * (1360 - cellLen wr (w.heap.size + 1 + 1)))
  case atStart =>
    exact ⟨A2, n2, c2, SR0, [], roots, rfl, by rw [← s0]; exact O2.out, P2.out, SLB.nil _ _, N2.out, Y2.out, (fun g hg h => by rcases h with ⟨a, ha, _⟩ | ⟨a, ha, _⟩ <;> cases ha), Going.start cs roots, by simp; omega, B2.out⟩
  case round =>
    obtain ⟨At, nt, ct, R', bs, todo, rfl, hot, hpb, hsb, hnb, hyb, hap, hgo, hbd, hbel⟩ := hrel
    have hlt := hot.len
    have hgl := hgo.len
    rw [kbs_len] at hgl
    have hs0 := hbel.size
    have hcl := cellLen_is hpb
    have hp1 := hpb.lt
    have TR := Lib.hid hot
    have PB := Lib.hid hpb
    have SB := Lib.hid hsb
    have NB := Lib.hid hnb
    have YB := Lib.hid hyb
    have AP := Lib.hid hap
    have GR := Lib.hid hgo
    have BR := Lib.hid hbel
    have CL := Lib.hid hcl
    clear hot hpb hsb hnb hyb hap hgo hbel hcl
    by_cases h0 : nt = 0
    · obtain rfl := h0
      obtain rfl : todo = [] := List.eq_nil_of_length_eq_zero hlt
      have p0 := PB.out.cell 0
      have p1 := PB.out.cell 1
      have y0 := YB.out.cell 0
      have y1 := YB.out.cell 1
      have f0 := YB.out.free
      unfold SR.kv at p0
      unfold SR.vv at p1
      simp at p0 p1 y0 y1
      have y2 := set2 YB.out (R'.kv bs.length) (R'.vv bs.length)
      unfold SR.kv SR.vv at y2
      have Y2 := Lib.hid y2
      have hnb : ¬ R'.at_ (w.heap.size + 1) := fun e => by have := (SB.out.lt _ e).1; omega
      have NBX := Lib.hid hnb
      clear y2 hnb
      go_wp2
      refine bodyPost_ret (v := .agg #[.slice R'.Ak bs.length R'.ck, .slice R'.Av bs.length R'.cv]) (results_cell_row Try.results67 _ _ (w.heap.size + 1) _ _ _ _ rfl Y2.out.1 Try.underlying95 rfl (by kernel_rfl)) rfl ?_
      exact ⟨R', bs, rfl, (SB.out.touch Y2.out.2 (fun g hg e => NBX.out (e ▸ hg))).base (by omega), GR.out, BR.out.trans (Y2.out.2.below hs0 (fun k hk e => by omega))⟩
    · obtain ⟨q, rfl⟩ : ∃ q, nt = q + 1 := ⟨nt - 1, by omega⟩
      obtain ⟨gt, hgt, hgt1, hgt2⟩ := TR.out.form (by omega)
      subst hgt
      have hq0 := TR.out.cell (k := q) (by omega)
      have hlast := TR.out.last
      obtain ⟨m, hmq⟩ : ∃ m, todo[q]?.getD 0 = m := ⟨_, rfl⟩
      rw [hmq] at hq0 hlast
      have G1 := GR.out
      rw [hlast] at G1
      have GR := Lib.hid G1
      have hct := TR.out.cap
      have T1 := Lib.hid TR.out.short
      have hgr : ¬ R'.at_ gt := AP.out gt rfl
      have HGR := Lib.hid hgr
      clear G1 TR hlast hmq AP hgr
      generalize todo.take q = td at T1 GR
      have hd : decide ((0 : Int) < ((q + 1 : Nat) : Int)) = true := decide_eq_true (by omega)
      have hwk : IntKind.i64.wrap (((q + 1 : Nat) : Int) - 1) = (q : Int) := by rw [IntKind.wrap_i64]; omega
      by_cases hm0 : m = 0
      · have hb0 : (m == 0) = true := by simp [hm0]
        go_wp2
        go_roundw
        case rel => exact ⟨some ⟨gt, 0, none⟩, q, ct, R', bs, td, rfl, T1.out, PB.out, SB.out, NB.out, YB.out, (fun g hg => by simp [Value.ownBlock] at hg; subst hg; exact HGR.out), GR.out.skip (.inl hm0), by omega, BR.out⟩
        case measure => rw [CL.out]; simp [lenOf]
      · have hb0 : (m == 0) = false := by simpa using hm0
        have HM0 := Lib.hid hm0
        clear hm0
        go_wp2_with fail
        refine (at_any w.heap.size lo0 R ps m wr NB.out (HD.out.below BR.out).sl).mono ?_
        rintro e w4 ⟨x, r, rfl, hat, b4⟩
        have hs4 := b4.size
        have hit := (HD.out.below BR.out).hit RT.out hat
        have h16 := hit_kids hit.1
        have HIT := Lib.hid hit.1
        have hatx : Kids w w.heap.size x.Ak x.nk x.nd.kids := (HD.out.hit RT.out hat).2
        have KX := Lib.hid hatx
        have hkl := hatx.1
        have T4 := Lib.hid (T1.out.below b4)
        have P4 := Lib.hid (PB.out.below b4 (by omega))
        have S4 := Lib.hid (SB.out.below b4)
        have N4 := Lib.hid (NB.out.below b4 (by omega))
        have Y4 := Lib.hid (YB.out.below b4 (by omega))
        have B4 := Lib.hid (BR.out.trans (b4.mono hs0))
        have RL := Lib.hid (fun g hg => (SB.out.lt g hg).2)
        clear hat hit hatx b4
        obtain ⟨Ap, np, cp, Ak, nk, ck, nd⟩ := x
        simp only at h16 KX HIT hkl
        unfold NV.v
        obtain ⟨w5, hw5⟩ : ∃ w5, w4.alloc (.cells #[.int .i64 nd.kind, .slice Ap np cp, .slice Ak nk ck, .string nd.val] 32) = w5 := ⟨_, rfl⟩
        have b5 : Below w4.heap.size w4 w5 := hw5 ▸ (Below.refl _ _).alloc (Nat.le_refl _) _
        have X5 := Lib.hid (show Box w5 w4.heap.size 32 #[.int .i64 nd.kind, .slice Ap np cp, .slice Ak nk ck, .string nd.val] from hw5 ▸ heap_alloc_new _ _)
        have s5 : w5.heap.size = w4.heap.size + 1 := hw5 ▸ by simp
        have T5 := Lib.hid (T4.out.below b5)
        have P5 := Lib.hid (P4.out.below b5 (by omega))
        have S5 := Lib.hid (S4.out.below b5)
        have N5 := Lib.hid (N4.out.below b5 (by omega))
        have Y5 := Lib.hid (Y4.out.below b5 (by omega))
        have B5 := Lib.hid (B4.out.trans (b5.mono (by omega)))
        clear b5
        go_wp2_with fail
        clear hw5
        refine (putB_any (w.heap.size + 1 + 1) (w.heap.size + 3) R' bs m r w5 P5.out S5.out (by omega) (by omega)).mono ?_
        rintro e w6 (⟨h6, rfl, b6⟩ | ⟨h6, rfl, R6, p6, l6, f6, t6⟩)
        · have hin : m ∈ kbs bs := (hitI_mem _ _ SB.out.rise).1 h6
          have HIN := Lib.hid hin
          have hs6 := b6.size
          have T6 := Lib.hid (T5.out.below b6)
          have P6 := Lib.hid (P5.out.below b6 (by omega))
          have S6 := Lib.hid (S5.out.below b6)
          have N6 := Lib.hid (N5.out.below b6 (by omega))
          have Y6 := Lib.hid (Y5.out.below b6 (by omega))
          have B6 := Lib.hid (B5.out.trans (b6.mono (by omega)))
          have C6 := Lib.hid (cellLen_is P6.out)
          clear hin h6 b6
          go_wp2
          go_roundw
          case rel => exact ⟨some ⟨gt, 0, none⟩, q, ct, R', bs, td, rfl, T6.out, P6.out, S6.out, N6.out, Y6.out, (fun g hg => by simp [Value.ownBlock] at hg; subst hg; exact HGR.out), GR.out.skip (.inr HIN.out), by omega, B6.out⟩
          case measure => rw [CL.out, C6.out]; simp [lenOf]
        · have hki := kbs_ins bs m r SB.out.rise h6
          have gt6 := GR.out.take RT.out HM0.out hki.1 HIT.out
          have hs6 := t6.size
          have hgn : ∀ g, g < w5.heap.size → ¬ R'.at_ g → g ≠ w.heap.size + 1 + 1 → w6.heap[g]? = w5.heap[g]? := fun g h1 h2 h3 => t6.block g h1 (fun e => e.elim h3 h2)
          have hno : ∀ g, g < w.heap.size + 3 ∨ wr.heap.size ≤ g → ¬ R'.at_ g := fun g h1 h2 => by
            have h3 := RL.out g h2
            have h4 := (SB.out.lt g h2).1
            omega
          have X6 := Lib.hid (show Box w6 w4.heap.size _ _ from (hgn _ (by omega) (hno _ (by omega)) (by omega)).trans X5.out)
          have N6 := Lib.hid (show Box w6 w.heap.size _ _ from (hgn _ (by omega) (hno _ (by omega)) (by omega)).trans N5.out)
          have Y6 := Lib.hid (show Box w6 (w.heap.size + 1) _ _ from (hgn _ (by omega) (hno _ (by omega)) (by omega)).trans Y5.out)
          have T6 := Lib.hid (T5.out.touch t6 (fun g hg e => by simp [Value.ownBlock] at hg; subst hg; exact e.elim (fun e => by omega) HGR.out))
          have B6 := Lib.hid (B5.out.trans (t6.below (by omega) (fun k hk e => e.elim (fun e => by omega) (fun e => hno k (by omega) e))))
          have P6 := Lib.hid p6
          have L6 := Lib.hid l6
          have hgr6 : ¬ R6.at_ gt := fun e => (f6 gt e).elim HGR.out (fun e => by omega)
          have HG6 := Lib.hid hgr6
          have RL6 := Lib.hid (fun g hg => (l6.lt g hg).2)
          have hl6 : (insP bs (lowI (kbs bs) m) (m, r)).length = bs.length + 1 := insP_len _ _ _ (lowB_len bs m)
          rw [← hl6] at p6
          have C6 := Lib.hid (cellLen_is p6)
          have hgl6 := gt6.len
          rw [insI_len, kbs_len] at hgl6
          rw [← hki.2, show (allB bs && r) = allB (insP bs (lowI (kbs bs) m) (m, r)) from (allB_ins bs (lowI (kbs bs) m) (m, r)).symm] at gt6
          have GT := Lib.hid gt6
          have P6 := Lib.hid p6
          have q62 := X6.out.cell 2
          simp at q62
          have hx6 := X6.out.lt
          generalize insP bs (lowI (kbs bs) m) (m, r) = bs6 at hl6 L6 GT C6 P6 RL6
          clear hki gt6 hgn hno p6 l6 f6 t6 hgr6 h6
          go_wp2
          go_loopw [6, 42] (fun t i wr => ∃ (k gk ck' : Nat), k ≤ nk ∧ i = .int .i64 k ∧ t = .slice (some ⟨gk, 0, none⟩) (q + k) ck' ∧ (gk = gt ∨ w6.heap.size ≤ gk) ∧ OwnI wr (w.heap.size + 3) (some ⟨gk, 0, none⟩) (q + k) ck' (td ++ (nd.kids.take k).map (·.2)) ∧ Touch (fun b => b = gt ∨ w6.heap.size ≤ b) w6 wr) (fun _ i _ => nk - (intOf i).toNat)
          case atStart => exact ⟨0, gt, ct, Nat.zero_le _, rfl, rfl, .inl rfl, by simpa using T6.out, Touch.of_below (Below.refl _ _)⟩
          case round =>
            obtain ⟨k, gk, ck', hkn, rfl, rfl, hgk, htk, htt⟩ := hrel
            have TK := Lib.hid htk
            have TT := Lib.hid htt
            have hsv : w6.heap.size ≤ wr.heap.size := htt.size
            have bv := B6.out.trans (htt.below (show w.heap.size ≤ w6.heap.size by omega) (fun b hb e => by rcases e with e | e <;> omega))
            have BV := Lib.hid bv
            have KV := Lib.hid (KX.out.below bv)
            clear htk htt bv q62
            by_cases hlk : k < nk
            · obtain ⟨bk, off, rfl, hbk, hk0, hk1⟩ := KV.out.at_ hlk
              have hst : (nd.kids.take (k + 1)).map (·.2) = (nd.kids.take k).map (·.2) ++ [(nd.kids[k]?.getD (0, 0)).2] := by
                rw [List.take_succ_eq_append_getElem (by omega), List.map_append, List.getElem?_eq_getElem (by omega)]; rfl
              have HST := Lib.hid hst
              obtain ⟨L, hL⟩ : ∃ L, td ++ (nd.kids.take k).map (·.2) = L := ⟨_, rfl⟩
              have TK := TK.out
              rw [hL] at TK
              have TK := Lib.hid TK
              have HL := Lib.hid hL
              clear hst hL
              generalize (nd.kids[k]?.getD (0, 0)).1 = y at hk0
              generalize (nd.kids[k]?.getD (0, 0)).2 = z at hk1 HST
              obtain ⟨w1, hw1⟩ : ∃ w1, wr.alloc (.cells #[.int .i64 y, .int .i64 z] 115) = w1 := ⟨_, rfl⟩
              have b1 : Below wr.heap.size wr w1 := hw1 ▸ (Below.refl _ _).alloc (Nat.le_refl _) _
              have C1 := Lib.hid (show Box w1 wr.heap.size 115 #[.int .i64 y, .int .i64 z] from hw1 ▸ heap_alloc_new _ _)
              have s1 : w1.heap.size = wr.heap.size + 1 := hw1 ▸ by simp
              have b12 : Below wr.heap.size wr (w1.alloc (.cells #[.int .i64 z] 2)) := b1.trans (((Below.refl w1.heap.size w1).alloc (Nat.le_refl _) _).mono (by omega))
              have BB := Lib.hid b12
              have c11 := C1.out.cell 1
              simp at c11
              clear b1 b12
              go_wp2_with (at_builtin; (refine wpList_append_lies _ rfl _ _ 29 rfl (w.heap.size + 3) 2 i0 (.int .i64 0) 1 8 Try.underlying29 HI.out HZ0.out HZ1.out HZ2.out rfl (by decide) (.slice (some ⟨gk, 0, none⟩) (q + k) ck') (q + k) (L.map (Value.int .i64)) (by simp [Act.eval]) (own_touch (S := fun _ => False) TK.out (Touch.of_below BB.out) (fun _ _ h => h)) ⟨w1.heap.size, 0, none⟩ 1 1 [.int .i64 z] (by simp [Act.eval]) rfl ?bq1 ?bq2 (by omega) ?bq3 ?bq4 ?bq5 _ rfl ?_))
              case bq2 => first | rfl | (intro u hu; simp at hu; subst hu; rfl)
              case bq3 => unfold maxLen; omega
              case bq4 => omega
              case bq5 => first | omega | (simp; omega)
              intro g7 c7 w7 hown7 hgrow7 hor7 _
              have t7 : Touch (fun b => b = gt ∨ w6.heap.size ≤ b) wr w7 := (Touch.of_below BB.out).trans ((Touch.of_grown hgrow7).mono (fun b e => by simp [Value.ownBlock] at e; omega))
              have h7 : g7 = gt ∨ w6.heap.size ≤ g7 := by
                rcases hor7 with e | e <;> (try simp [Value.ownBlock] at e) <;> omega
              have o7 : OwnI w7 (w.heap.size + 3) (some ⟨g7, 0, none⟩) (q + (k + 1)) c7 (td ++ (nd.kids.take (k + 1)).map (·.2)) := by
                rw [HST.out, ← List.append_assoc, HL.out]
                unfold OwnI
                rw [List.map_append]
                exact hown7
              have O7 := Lib.hid o7
              have T7 := Lib.hid (TT.out.trans t7)
              have H7 := Lib.hid h7
              clear hown7 hgrow7 hor7 t7 o7 h7 hk0 hk1 c11 hw1
              go_wp2
              go_roundw
              case rel => exact ⟨k + 1, g7, c7, by omega, by go_num, rfl, H7.out, O7.out, T7.out⟩
              case measure => simp [intOf]; omega
            · obtain rfl : k = nk := by omega
              have tk8 := TK.out
              rw [List.take_of_length_le (by omega)] at tk8
              have T8 := Lib.hid tk8
              have hgn : ∀ g, g < w6.heap.size → g ≠ gt → wr.heap[g]? = w6.heap[g]? := fun g h1 h2 => TT.out.block g h1 (fun e => by rcases e with e | e <;> omega)
              have P8 := Lib.hid (show Box wr (w.heap.size + 1 + 1) _ _ from (hgn _ (by omega) (by omega)).trans P6.out)
              have N8 := Lib.hid (show Box wr w.heap.size _ _ from (hgn _ (by omega) (by omega)).trans N6.out)
              have Y8 := Lib.hid (show Box wr (w.heap.size + 1) _ _ from (hgn _ (by omega) (by omega)).trans Y6.out)
              have L8 := Lib.hid (L6.out.touch TT.out (fun g hg e => by
                rcases e with e | e
                · subst e; exact HG6.out hg
                · have := RL6.out g hg; omega))
              have C8 := Lib.hid (cellLen_is P8.out)
              clear tk8 hgn
              go_wp2
              go_roundw
              case rel =>
                exact ⟨some ⟨gk, 0, none⟩, q + k, ck', R6, bs6, td ++ nd.kids.map (·.2), rfl, T8.out, P8.out, L8.out, N8.out, Y8.out, (fun g hg e => by
                  simp [Value.ownBlock] at hg
                  subst hg
                  rcases hgk with e2 | e2
                  · subst e2; exact HG6.out e
                  · have := RL6.out _ e; omega), GT.out, by omega, BV.out⟩
              case measure => rw [CL.out, C8.out]; simp [lenOf]; omega
end Go.Proofs.Ytpgmiokdlloinaa
