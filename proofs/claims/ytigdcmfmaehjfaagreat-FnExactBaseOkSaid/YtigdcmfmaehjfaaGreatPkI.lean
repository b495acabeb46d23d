/- Several texts in one, in build order: RightP, MissP, RightQ, OwnO, Opened, BaseQ, Chg, Chs, OpenChs, ChsX. -/
import Derived.Test.YtigdcmfmaehjfaaGreatPkH
import Derived.Deep.RegionHeld3
import Derived.StillTailTactics
import Derived.Deep.QuietTactic
import Derived.BigQuiet
import Derived.Deep.DeepCutAuto
-- RightP: What the program asks of an open base: its greyRight, its noneMissed.
namespace Go.Proofs.YtigdcmfmaehjfaaGreat
set_option maxRecDepth 100000
set_option linter.unusedVariables false
set_option linter.unusedSimpArgs false
open Go.RowKit

theorem Tryz.enterBlack (args : Array Value) (w : World) : (callFunc 151 args).run Tryz.prog w = .ok (.enter 151 args) w := by kernel_rfl
theorem Tryz.enterWhite (args : Array Value) (w : World) : (callFunc 113 args).run Tryz.prog w = .ok (.enter 113 args) w := by kernel_rfl
/-- is one of these black? -/
theorem anyBlack_any (p lo : Nat) (L : OLay) (ps : List (Int × NV)) (b : MBase) (A : Option Addr) (n c : Nat) (l : List Int) (B : Nat) (w : World) (ho : OpenIs w p lo L ps b) (hr : RiseI b.black) (hn : n ≤ 1048576) (hb : Ints w B A n l) :
    Calls Tryz.prog 112 #[.slice A n c, .func (.func 151) #[.pointer (some ⟨p, 4, none⟩)] #[]] w fun e w' => ∃ r, e = .returned (.bool r) ∧ (r = false ↔ ∀ x, x ∈ l → x ∉ b.black) ∧ Below w.heap.size w w' := by
  refine (containsF_any _ p 4 (fun x => decide (x ∈ b.black)) A n c l B w Tryz.enterBlack hn hb (fun x q => (isBlack_any p lo L ps b x (w.drewN q) (ho.drewN q) hr).mono (fun e w' h => ⟨h.1, by obtain ⟨q', e⟩ := h.2; exact ⟨q + q', by rw [e, World.drewN_drewN]⟩⟩))).mono ?_
  rintro e w2 ⟨rfl, q, rfl⟩
  refine ⟨_, rfl, ?_, drewN_below _ _⟩
  rw [← Bool.not_eq_true, List.any_eq_true]
  exact ⟨fun h x hx hb => h ⟨x, hx, decide_eq_true hb⟩, fun h ⟨x, hx, hb⟩ => h x hx (of_decide_eq_true hb)⟩
/-- is one of these neither grey nor black? -/
theorem anyWhite_any (p lo : Nat) (L : OLay) (ps : List (Int × NV)) (b : MBase) (A : Option Addr) (n c : Nat) (l : List Int) (B : Nat) (w : World) (ho : OpenIs w p lo L ps b) (hr : RiseI b.black) (hn : n ≤ 1048576) (hb : Ints w B A n l) :
    Calls Tryz.prog 112 #[.slice A n c, .func (.func 113) #[.pointer (some ⟨p, 4, none⟩)] #[]] w fun e w' => ∃ r, e = .returned (.bool r) ∧ (r = false ↔ ∀ x, x ∈ l → x ∈ b.grey ∨ x ∈ b.black) ∧ Below w.heap.size w w' := by
  refine (containsF_any _ p 4 (fun x => decide (x ∉ b.grey ∧ x ∉ b.black)) A n c l B w Tryz.enterWhite hn hb (fun x q => (isWhite_any p lo L ps b x (w.drewN q) (ho.drewN q) hr).mono (fun e w' h => ⟨h.1, by obtain ⟨q', e⟩ := h.2; exact ⟨q + q', by rw [e, World.drewN_drewN]⟩⟩))).mono ?_
  rintro e w2 ⟨rfl, q, rfl⟩
  refine ⟨_, rfl, ?_, drewN_below _ _⟩
  rw [← Bool.not_eq_true, List.any_eq_true]
  constructor
  · intro h x hx
    by_cases h1 : x ∈ b.grey
    · exact .inl h1
    · by_cases h2 : x ∈ b.black
      · exact .inr h2
      · exact absurd ⟨x, hx, decide_eq_true ⟨h1, h2⟩⟩ h
  · rintro h ⟨x, hx, hb⟩
    have hb := of_decide_eq_true hb
    exact (h x hx).elim hb.1 hb.2
def GreyOk (b : MBase) : Prop := Named b.cells b.grey ∧ b.grey.Nodup ∧ Whole b.cells b.grey ∧ ∀ x, x ∈ b.grey → x ∉ b.black
set_option maxHeartbeats 3200000 in
theorem greyRight_any (p lo : Nat) (L : OLay) (ps : List (Int × NV)) (b : MBase) (w : World) (ho : OpenIs w p lo L ps b) (hr : Right b.cells) (hrb : RiseI b.black) :
    Calls Tryz.prog 110 #[.pointer (some ⟨p, 0, none⟩)] w fun e w' => SaysB e (GreyOk b) ∧ Below w.heap.size w w' := by
  have HO := Lib.hid ho
  have HR := Lib.hid hr
  have HRB := Lib.hid hrb
  have hsum := ho.sum
  have q5 := ho.c5
  clear ho hr hrb
  go_enter Tryz.func110, Tryz.ntmps110
  go_wp2_with fail
  refine (hasAll_any p lo L ps b L.Ag L.ng L.cg b.grey w.heap.size w HO.out HR.out (by omega) (Nat.le_refl _) HO.out.grey).mono ?_
  rintro e w2 ⟨⟨r, rfl, hr⟩, b2⟩
  have NR := Lib.hid hr
  have B2 := Lib.hid b2
  have s2 := b2.size
  have O2 := Lib.hid (HO.out.below b2)
  clear hr b2 q5
  cases r with
  | false =>
    go_wp2
    go_ret
    exact ⟨SaysB.f (fun h => absurd (NR.out.2 h.1) (by simp)), B2.out⟩
  | true =>
    have NM := Lib.hid (NR.out.1 (by trivial))
    clear NR
    have q5 := O2.out.c5
    go_wp2_with fail
    refine (vals_any L.Ag L.ng L.cg w2).mono ?_
    rintro e w3 ⟨rfl, hw3⟩
    have b3 : Below w2.heap.size w2 w3 := hw3 ▸ (Below.refl _ _).alloc (Nat.le_refl _) _
    have X3 := Lib.hid (show Box w3 w2.heap.size 23 #[.slice L.Ag L.ng L.cg] from hw3 ▸ heap_alloc_new _ _)
    have s3 : w3.heap.size = w2.heap.size + 1 := hw3 ▸ by simp
    have O3 := Lib.hid (O2.out.below b3)
    have B3 := Lib.hid (B2.out.trans (b3.mono s2))
    clear b3 hw3 q5
    go_wp2_with fail
    refine (sorted_any w2.heap.size L.ng L.cg L.Ag b.grey w3 X3.out O3.out.grey (by omega)).mono ?_
    rintro e w4 ⟨A4, n4, c4, rfl, o4, hn4, b4⟩
    have hlg := O3.out.grey.1
    have O4 := Lib.hid (O3.out.below b4)
    have B4 := Lib.hid (B3.out.trans (b4.mono (by omega)))
    have s4 := b4.size
    have G4 := Lib.hid o4
    have HN4 := Lib.hid (show n4 ≤ 1048576 by omega)
    clear o4 b4 hn4 hlg
    go_wp2_with fail
    refine (rises_any A4 n4 c4 _ w4.heap.size w4 HN4.out G4.out.ints).mono ?_
    rintro e w5 ⟨⟨r, rfl, hr⟩, q, hq⟩
    have b5 : Below w4.heap.size w4 w5 := hq ▸ drewN_below _ _
    have NR := Lib.hid (hr.trans (rises_sort b.grey))
    have O5 := Lib.hid (O4.out.below b5)
    have B5 := Lib.hid (B4.out.trans (b5.mono (by omega)))
    have s5 := b5.size
    clear b5 hq hr
    cases r with
    | false =>
      go_wp2
      go_ret
      exact ⟨SaysB.f (fun h => absurd (NR.out.2 ⟨h.2.1, fun x hx => HR.out.named (h.1 x hx)⟩) (by simp)), B5.out⟩
    | true =>
      have ND := Lib.hid (NR.out.1 (by trivial)).1
      clear NR
      have h80 : L.ng ≤ 80 := by
        have := named_len b.cells b.grey ND.out NM.out
        have := HR.out.1
        have := HO.out.grey.1
        omega
      have hc0 : ∀ W, Below w5.heap.size w5 W → W.cell? ⟨p, 0, none⟩ = some (.slice L.R.Ak ps.length L.R.ck) := fun W h => (O5.out.below h).c0
      have hc1 : ∀ W, Below w5.heap.size w5 W → W.cell? ⟨p, 1, none⟩ = some (.slice L.R.Av ps.length L.R.cv) := fun W h => (O5.out.below h).c1
      have hc5 : ∀ W, Below w5.heap.size w5 W → W.cell? ⟨p, 5, none⟩ = some (.slice L.Ag L.ng L.cg) := fun W h => (O5.out.below h).c5
      have hRE : ∀ W, Below w5.heap.size w5 W → Calls Tryz.prog 109 #[.agg #[.slice L.R.Ak ps.length L.R.ck, .slice L.R.Av ps.length L.R.cv], .slice L.Ag L.ng L.cg] W
          fun e w' => ∃ A n c l r, e = .returned (.tuple #[.slice A n c, .bool r]) ∧ Going b.cells b.grey l [] r ∧ OwnI w' W.heap.size A n c l ∧ Below W.heap.size W w' :=
        fun W h => reachedFrom_any lo L.R ps b.cells L.Ag L.ng L.cg b.grey W.heap.size W (O5.out.below h).nodes HR.out h80 HO.out.cg HO.out.zg (Nat.le_refl _) (O5.out.below h).grey
      have RE := Lib.hid hRE
      clear hRE
      go_wp2
      go_region_held3 (fun W => Below w5.heap.size w5 W) (first | exact (Below.refl _ _).drew | assumption)
        (first | (go_at_call 109
                  refine (RE.out _ (by assumption)).mono ?_
                  rintro e w6 ⟨g6, n6, c6, l6, r6, rfl, hgo, o6, b6⟩
                  have h6 := (by assumption : Below w5.heap.size w5 _).trans (b6.mono (by assumption : Below w5.heap.size w5 _).size)))
      have WH := Lib.hid hgo.whole_
      have B6 := Lib.hid (B5.out.trans (h6.mono (by omega)))
      have O6 := Lib.hid (O5.out.below h6)
      have s6 : w5.heap.size ≤ w6.heap.size := h6.size
      clear hgo h6 b6 o6 hc0 hc1 hc5
      cases r6 with
      | false =>
        go_wp2
        go_quiet (fail)
        go_wp2
        go_ret
        exact ⟨SaysB.f (fun h => absurd (WH.out.2 h.2.2.1) (by simp)), B6.out.trans ((drewN_below _ _).mono (by omega))⟩
      | true =>
        have hc5 : ∀ W, Below w6.heap.size w6 W → W.cell? ⟨p, 5, none⟩ = some (.slice L.Ag L.ng L.cg) := fun W h => (O6.out.below h).c5
        have hAB : ∀ W, Below w6.heap.size w6 W → Calls Tryz.prog 112 #[.slice L.Ag L.ng L.cg, .func (.func 151) #[.pointer (some ⟨p, 4, none⟩)] #[]] W
            fun e w' => ∃ r, e = .returned (.bool r) ∧ (r = false ↔ ∀ x, x ∈ b.grey → x ∉ b.black) ∧ Below W.heap.size W w' :=
          fun W h => anyBlack_any p lo L ps b L.Ag L.ng L.cg b.grey W.heap.size W (O6.out.below h) HRB.out (by omega) (O6.out.below h).grey
        have AB := Lib.hid hAB
        have hmf : ∀ (fn : Fn) (first cap : Array Value) (w : World), (Instr.makeFunc fn first cap).run Tryz.prog w = .ok (.func fn first cap) w := fun _ _ _ _ => rfl
        clear hAB
        go_wp2
        go_region_held3 (fun W => Below w6.heap.size w6 W) (first | exact (Below.refl _ _).drew | assumption)
          (first | (go_at_call 112
                    refine (AB.out _ (by assumption)).mono ?_
                    rintro e w7 ⟨r7, rfl, hb7, b7⟩
                    have h7 := (by assumption : Below w6.heap.size w6 _).trans (b7.mono (by assumption : Below w6.heap.size w6 _).size)))
        have BB := Lib.hid hb7
        have B7 := Lib.hid (B6.out.trans (h7.mono (by omega)))
        clear hb7 h7 b7 hc5 hmf
        have WT := Lib.hid (WH.out.1 (by trivial))
        cases r7 with
        | false =>
          go_wp2
          go_ret
          exact ⟨SaysB.t ⟨NM.out, ND.out, WT.out, BB.out.1 (by trivial)⟩, B7.out⟩
        | true =>
          go_wp2
          go_ret
          exact ⟨SaysB.f (fun h => absurd (BB.out.2 h.2.2.2) (by simp)), B7.out⟩
def MissOk (b : MBase) : Prop := (∀ y k, y ∈ b.black → KidOf b.cells y k → k ∈ b.grey ∨ k ∈ b.black) ∧ ∀ x, x ∈ keptOf b → x ∈ b.grey ∨ x ∈ b.black
end Go.Proofs.YtigdcmfmaehjfaaGreat

-- MissP: What the program asks of an open base: its noneMissed.
namespace Go.Proofs.YtigdcmfmaehjfaaGreat
set_option maxRecDepth 100000
set_option linter.unusedVariables false
set_option linter.unusedSimpArgs false
open Go.RowKit

theorem kid_cases {b : MBase} {y : Int} {nd : MNode} {r : Bool} (h : HitIs b.cells y nd r) {k : Int} (hk : KidOf b.cells y k) : ∃ i, i < nd.kids.length ∧ (nd.kids[i]?.getD (0, 0)).2 = k := by
  obtain ⟨nd', a, h', hm⟩ := hk
  obtain ⟨rfl, _⟩ := h.one h'
  obtain ⟨i, hi, e⟩ := List.mem_iff_getElem.1 hm
  refine ⟨i, hi, ?_⟩
  rw [List.getElem?_eq_getElem hi, e]
  rfl
theorem node0_kids : node0.kids = [] := rfl
theorem kid_of {b : MBase} {y : Int} {nd : MNode} {r : Bool} (h : HitIs b.cells y nd r) (hr : Right b.cells) {i : Nat} (hi : i < nd.kids.length) : KidOf b.cells y (nd.kids[i]?.getD (0, 0)).2 := by
  have hr' : r = true := by
    rcases h with ⟨h1, h2⟩ | ⟨_, h2, _⟩
    · exact (IsNode.of h2).2 (hr.2 _ h1).1
    · rw [h2] at hi; exact absurd hi (by rw [node0_kids]; simp)
  subst hr'
  refine ⟨nd, (nd.kids[i]?.getD (0, 0)).1, h, ?_⟩
  rw [List.getElem?_eq_getElem hi]
  exact List.getElem_mem hi
set_option maxHeartbeats 4000000 in
theorem noneMissed_any (p lo : Nat) (L : OLay) (ps : List (Int × NV)) (b : MBase) (w : World) (ho : OpenIs w p lo L ps b) (hr : Right b.cells) (hrp : RiseI b.pins) (hrb : RiseI b.black) (h6 : L.np ≤ 6) :
    Calls Tryz.prog 111 #[.pointer (some ⟨p, 0, none⟩)] w fun e w' => SaysB e (MissOk b) ∧ Below w.heap.size w w' := by
  have HO := Lib.hid ho
  have HR := Lib.hid hr
  have HRB := Lib.hid hrb
  have HRP := Lib.hid hrp
  have hsum := ho.sum
  have hlb := ho.black.1
  have q6 := ho.c6
  obtain ⟨Ab, hAb⟩ : ∃ x, L.Ab = x := ⟨_, rfl⟩
  rw [hAb] at q6
  have HAB := Lib.hid hAb
  clear ho hr hrb hrp hAb
  go_enter Tryz.func111, Tryz.ntmps111
  go_wp2
  clear q6
  go_loopw [15] (fun s15 wr => ∃ k : Nat, k ≤ L.nb ∧ s15 = .int .i64 k ∧ (∀ y kk, y ∈ b.black.take k → KidOf b.cells y kk → kk ∈ b.grey ∨ kk ∈ b.black) ∧ Below w.heap.size w wr) (fun s15 _ => L.nb - (intOf s15).toNat)
  case atStart => exact ⟨0, Nat.zero_le _, rfl, (fun y kk hy _ => by simp at hy), Below.refl _ _⟩
  case round =>
    obtain ⟨k, hk, rfl, h1, hbel⟩ := hrel
    have H1 := Lib.hid h1
    have BR := Lib.hid hbel
    have hs := hbel.size
    clear h1
    by_cases hlt : k < L.nb
    · have OR := Lib.hid (HO.out.below hbel)
      obtain ⟨g, off, hge, hgB, hcell⟩ := OR.out.black.2 (by omega)
      rw [HAB.out] at hge
      subst hge
      have cm : wr.cell? ⟨g, off + k, none⟩ = some (.int .i64 (b.black[k]?.getD 0)) := hcell _ hlt
      have htk : b.black.take (k + 1) = b.black.take k ++ [b.black[k]?.getD 0] := by
        rw [List.take_succ_eq_append_getElem (by omega), List.getElem?_eq_getElem (by omega)]; rfl
      have hmem := getD_mem b.black k (by omega)
      clear hcell hbel
      obtain ⟨y, hy⟩ : ∃ y, b.black[k]?.getD 0 = y := ⟨_, rfl⟩
      rw [hy] at cm htk hmem
      have TK := Lib.hid htk
      have HM := Lib.hid hmem
      clear hy htk hmem
      go_wp2_with fail
      refine (atC_any p lo L.R ps b.cells y wr HR.out OR.out.box rfl rfl OR.out.nodes).mono ?_
      rintro e w4 ⟨x, r, rfl, hit, hkx, b4⟩
      have h16 := hit_kids hit
      have HIT := Lib.hid hit
      have KX := Lib.hid (hkx.below b4)
      have hkl := hkx.1
      have B4 := Lib.hid (BR.out.trans (b4.mono hs))
      have s4 := b4.size
      clear hit hkx b4 cm
      obtain ⟨Ap, np, cp, Ak, nk, ck, nd⟩ := x
      simp only at h16 HIT KX hkl
      unfold NV.v
      obtain ⟨w5, hw5⟩ : ∃ w5, w4.alloc (.cells #[.int .i64 nd.kind, .slice Ap np cp, .slice Ak nk ck, .string nd.val] 96) = w5 := ⟨_, rfl⟩
      have b5 : Below w4.heap.size w4 w5 := hw5 ▸ (Below.refl _ _).alloc (Nat.le_refl _) _
      have X5 := Lib.hid (show Box w5 w4.heap.size 96 #[.int .i64 nd.kind, .slice Ap np cp, .slice Ak nk ck, .string nd.val] from hw5 ▸ heap_alloc_new _ _)
      have s5 : w5.heap.size = w4.heap.size + 1 := hw5 ▸ by simp
      have B5 := Lib.hid (B4.out.trans (b5.mono (by omega)))
      have K5 := Lib.hid (KX.out.below (b5.mono s4))
      have q52 := X5.out.cell 2
      simp at q52
      clear b5
      go_wp2
      clear hw5 q52
      go_loopw [30] (fun s30 wq => ∃ j : Nat, j ≤ nk ∧ s30 = .int .i64 j ∧ (∀ i, i < j → (nd.kids[i]?.getD (0, 0)).2 ∈ b.grey ∨ (nd.kids[i]?.getD (0, 0)).2 ∈ b.black) ∧ Below w5.heap.size w5 wq) (fun s30 _ => nk - (intOf s30).toNat)
      case atStart => exact ⟨0, Nat.zero_le _, rfl, (fun i hi => absurd hi (Nat.not_lt_zero _)), Below.refl _ _⟩
      case round =>
        obtain ⟨j, hj, rfl, hg1, hbq⟩ := hrel
        have G1 := Lib.hid hg1
        have BQ := Lib.hid (B5.out.trans (hbq.mono (by omega)))
        have B5Q := Lib.hid hbq
        have hsq := hbq.size
        clear hg1
        by_cases hlj : j < nk
        · obtain ⟨bk, koff, rfl, hbk, hk0, hk1⟩ := (K5.out.below (hbq.mono (by omega))).at_ hlj
          obtain ⟨y1, hy1⟩ : ∃ y1, (nd.kids[j]?.getD (0, 0)).1 = y1 := ⟨_, rfl⟩
          obtain ⟨z1, hz1⟩ : ∃ z1, (nd.kids[j]?.getD (0, 0)).2 = z1 := ⟨_, rfl⟩
          rw [hy1] at hk0
          rw [hz1] at hk1
          have Z1 := Lib.hid hz1
          clear hy1 hz1 hbq
          obtain ⟨w6, hw6⟩ : ∃ w6, wr.alloc (.cells #[.int .i64 y1, .int .i64 z1] 105) = w6 := ⟨_, rfl⟩
          have b6 : Below wr.heap.size wr w6 := hw6 ▸ (Below.refl _ _).alloc (Nat.le_refl _) _
          have C6 := Lib.hid (show Box w6 wr.heap.size 105 #[.int .i64 y1, .int .i64 z1] from hw6 ▸ heap_alloc_new _ _)
          have s6 : w6.heap.size = wr.heap.size + 1 := hw6 ▸ by simp
          have B6 := Lib.hid (BQ.out.trans (b6.mono (by omega)))
          have B56 := Lib.hid (B5Q.out.trans (b6.mono (by omega)))
          have O6 := Lib.hid (HO.out.below B6.out)
          clear b6
          have hcz : ∀ W, Below w6.heap.size w6 W → W.cell? ⟨wr.heap.size, 1, none⟩ = some (.int .i64 z1) := fun W h => by simpa using (C6.out.below h (by omega)).cell 1
          have hWH : ∀ W, Below w6.heap.size w6 W → Calls Tryz.prog 113 #[.pointer (some ⟨p, 4, none⟩), .int .i64 z1] W fun e w' => ∃ r, e = .returned (.bool r) ∧ (r = true ↔ (z1 ∉ b.grey ∧ z1 ∉ b.black)) ∧ Below w6.heap.size w6 w' :=
            fun W h => (isWhite_any p lo L ps b z1 W (O6.out.below h) HRB.out).mono (fun e w' hh => ⟨_, hh.1, decide_eq_true_iff, by obtain ⟨q, e⟩ := hh.2; rw [e]; exact below_drewN h q⟩)
          have WH := Lib.hid hWH
          have S6 := Lib.hid s6
          clear hWH s6
          go_wp2
          clear hw6 hk0 hk1
          go_region_held3 (fun W => Below w6.heap.size w6 W) (first | exact (Below.refl _ _).drew | assumption)
            (first | (go_at_call 113
                      refine (WH.out _ (by assumption)).mono ?_
                      rintro e w7 ⟨r7, rfl, hr7, h7⟩))
          all_goals
            have s6 := S6.out
            have B7 := Lib.hid (B6.out.trans (h7.mono (by omega)))
            have B57 := Lib.hid (B56.out.trans (h7.mono (by omega)))
            have R7 := Lib.hid hr7
            clear hr7 hcz
            cases r7 with
            | true =>
              have hz := R7.out.1 (by trivial)
              have ZW := Lib.hid hz
              clear hz
              go_wp2
              go_ret
              refine ⟨SaysB.f (fun h => ?_), B7.out⟩
              have h2 := h.1 y z1 HM.out (by have := kid_of HIT.out HR.out (i := j) (by omega); rwa [Z1.out] at this)
              exact h2.elim ZW.out.1 ZW.out.2
            | false =>
              have hz : ¬ (z1 ∉ b.grey ∧ z1 ∉ b.black) := fun h => absurd (R7.out.2 h) (by simp)
              have ZW := Lib.hid hz
              clear hz
              go_wp2
              go_roundw
              case measure => simp [intOf]; omega
              case rel =>
                refine ⟨j + 1, by omega, by go_num, fun i hi => ?_, B57.out⟩
                by_cases e : i = j
                · subst e
                  rw [Z1.out]
                  by_cases h1 : z1 ∈ b.grey
                  · exact .inl h1
                  · by_cases h2 : z1 ∈ b.black
                    · exact .inr h2
                    · exact absurd ⟨h1, h2⟩ ZW.out
                · exact G1.out i (by omega)
        · obtain rfl : j = nk := by omega
          have hend : ∀ y' kk, y' ∈ b.black.take (k + 1) → KidOf b.cells y' kk → kk ∈ b.grey ∨ kk ∈ b.black := by
            intro y' kk hy hkk
            rw [TK.out] at hy
            rcases List.mem_append.1 hy with hy | hy
            · exact H1.out y' kk hy hkk
            · simp at hy
              subst hy
              obtain ⟨i, hi, e⟩ := kid_cases HIT.out hkk
              rw [← e]
              exact G1.out i (by omega)
          have HE := Lib.hid hend
          clear hend hbq
          go_wp2
          go_roundw
          case measure => simp [intOf]; omega
          case rel => exact ⟨k + 1, by omega, by go_num, HE.out, BQ.out⟩
    · obtain rfl : k = L.nb := by omega
      have h2 := H1.out
      rw [List.take_of_length_le (by omega)] at h2
      have H2 := Lib.hid h2
      have OR := Lib.hid (HO.out.below hbel)
      have hKP : ∀ W, Below wr.heap.size wr W → Calls Tryz.prog 44 #[.pointer (some ⟨p, 0, none⟩)] W fun e w' => ∃ A n c, e = .returned (.slice A n c) ∧ OwnI w' W.heap.size A n c (keptOf b) ∧ n ≤ 7 ∧ Below W.heap.size W w' :=
        fun W h => kept_any p lo L ps b W (OR.out.below h) HRP.out h6
      have hAW : ∀ W, Below wr.heap.size wr W → ∀ A n c, n ≤ 7 → Ints W W.heap.size A n (keptOf b) → Calls Tryz.prog 112 #[.slice A n c, .func (.func 113) #[.pointer (some ⟨p, 4, none⟩)] #[]] W
          fun e w' => ∃ r, e = .returned (.bool r) ∧ (r = false ↔ ∀ x, x ∈ keptOf b → x ∈ b.grey ∨ x ∈ b.black) ∧ Below W.heap.size W w' :=
        fun W h A n c hn hi => anyWhite_any p lo L ps b A n c (keptOf b) W.heap.size W (OR.out.below h) HRB.out (by omega) hi
      have KP := Lib.hid hKP
      have AW := Lib.hid hAW
      have hmf : ∀ (fn : Fn) (first cap : Array Value) (w : World), (Instr.makeFunc fn first cap).run Tryz.prog w = .ok (.func fn first cap) w := fun _ _ _ _ => rfl
      clear h2 hKP hAW hbel
      go_wp2
      go_region_held3 (fun W => Below wr.heap.size wr W) (first | exact (Below.refl _ _).drew | assumption)
        (first | (go_at_call 44
                  refine (KP.out _ (by assumption)).mono ?_
                  rintro e w5 ⟨A5, n5, c5, rfl, o5, hn5, b5⟩
                  have h5 := (by assumption : Below wr.heap.size wr _).trans (b5.mono (by assumption : Below wr.heap.size wr _).size))
               | (go_at_call 112
                  refine (AW.out _ (by assumption) _ _ _ hn5 o5.ints).mono ?_
                  rintro e w6 ⟨r6, rfl, hb6, b6⟩
                  have h6 := (by assumption : Below wr.heap.size wr _).trans (b6.mono (by assumption : Below wr.heap.size wr _).size)))
      all_goals
        have BB := Lib.hid hb6
        have B6 := Lib.hid (BR.out.trans (h6.mono hs))
        clear hb6 h6 b6 b5 o5 h5 hmf
        cases r6 with
        | false =>
          go_wp2
          go_ret
          exact ⟨SaysB.t ⟨H2.out, BB.out.1 (by trivial)⟩, B6.out⟩
        | true =>
          go_wp2
          go_ret
          exact ⟨SaysB.f (fun h => absurd (BB.out.2 h.2) (by simp)), B6.out⟩
end Go.Proofs.YtigdcmfmaehjfaaGreat

-- RightQ: The program asks whether an open base is right: its right.
namespace Go.Proofs.YtigdcmfmaehjfaaGreat
set_option maxRecDepth 100000
set_option linter.unusedVariables false
set_option linter.unusedSimpArgs false
open Go.RowKit

theorem good_mark {b : MBase} (hc : PreOk b) (h1 : b.phase = 1) (hb : Rises b.black) (hbn : Named b.cells b.black) : BaseGood b ↔ (GreyOk b ∧ MissOk b ∧ b.cursor = 0) := by
  have hm := mark_iff hc.cells hb hbn
  constructor
  · intro h
    rcases h.2 with ⟨e, _⟩ | ⟨_, h2⟩ | ⟨e, _⟩
    · omega
    · exact hm.1 h2
    · omega
  · intro h
    exact ⟨hc, .inr (.inl ⟨h1, hm.2 h⟩)⟩
theorem good_sweep {b : MBase} (hc : PreOk b) (h2 : b.phase = 2) (hbn : Named b.cells b.black) (l : List Int) (hl : ∀ x, x ∈ l ↔ Reached b.cells (keptOf b) x) : BaseGood b ↔ (b.grey = [] ∧ (∀ x, x ∈ l → x ∈ b.black) ∧ 0 ≤ b.cursor) := by
  have hm := sweep_iff hbn l hl
  constructor
  · intro h
    rcases h.2 with ⟨e, _⟩ | ⟨e, _⟩ | ⟨_, h2⟩
    · omega
    · omega
    · exact hm.1 h2
  · intro h
    exact ⟨hc, .inr (.inr ⟨h2, hm.2 h⟩)⟩
theorem good_idle {b : MBase} (hc : PreOk b) (h0 : b.phase = 0) : BaseGood b ↔ (b.grey = [] ∧ b.black = [] ∧ b.cursor = 0) := by
  constructor
  · intro h
    rcases h.2 with ⟨_, h2⟩ | ⟨e, _⟩ | ⟨e, _⟩
    · exact h2
    · omega
    · omega
  · intro h
    exact ⟨hc, .inl ⟨h0, h⟩⟩
theorem good_else {b : MBase} (h0 : b.phase ≠ 0) (h1 : b.phase ≠ 1) (h2 : b.phase ≠ 2) : ¬ BaseGood b := fun h => by
  rcases h.2 with ⟨e, _⟩ | ⟨e, _⟩ | ⟨e, _⟩ <;> omega
set_option maxHeartbeats 4000000 in
theorem right_any (p lo : Nat) (L : OLay) (ps : List (Int × NV)) (b : MBase) (w : World) (ho : OpenIs w p lo L ps b) (hs : Sound b.cells) :
    Calls Tryz.prog 73 #[.pointer (some ⟨p, 0, none⟩)] w fun e w' => SaysB e (BaseGood b) ∧ Below w.heap.size w w' := by
  have HO := Lib.hid ho
  have HS := Lib.hid hs
  have hsum := ho.sum
  have hln0 := ho.nodes.len
  have HLN := Lib.hid hln0
  have hlp := ho.pins.1
  have hlg := ho.grey.1
  have hlb := ho.black.1
  have q0 := ho.c0
  have q3 := ho.c3
  have q6 := ho.c6
  clear ho hs hln0
  go_enter Tryz.func73, Tryz.ntmps73
  by_cases h80 : 80 < ps.length
  · have hd : decide ((80 : Int) < (ps.length : Int)) = true := decide_eq_true (by omega)
    go_wp2
    go_ret
    exact ⟨SaysB.f (fun h => by have := h.1.cells.1; have := HLN.out; omega), Below.refl _ _⟩
  have hd : decide ((80 : Int) < (ps.length : Int)) = false := decide_eq_false (by omega)
  by_cases h6 : 6 < L.np
  · have hd2 : decide ((6 : Int) < (L.np : Int)) = true := decide_eq_true (by omega)
    go_wp2
    go_ret
    exact ⟨SaysB.f (fun h => by have := h.1.few; omega), Below.refl _ _⟩
  have hd2 : decide ((6 : Int) < (L.np : Int)) = false := decide_eq_false (by omega)
  have HC := Lib.hid (show Right b.cells from ⟨by have := HLN.out; omega, HS.out⟩)
  go_wp2_with fail
  refine (rises_any L.Ap L.np L.cp b.pins w.heap.size w (by omega) HO.out.pins).mono ?_
  rintro e w2 ⟨⟨r, rfl, hr⟩, q, hq⟩
  have b2 : Below w.heap.size w w2 := hq ▸ drewN_below _ _
  have RP := Lib.hid hr
  have B2 := Lib.hid b2
  have O2 := Lib.hid (HO.out.below b2)
  have s2 := b2.size
  clear hr hq b2 q0 q3 q6
  cases r with
  | false =>
    go_wp2
    go_ret
    exact ⟨SaysB.f (fun h => absurd (RP.out.2 (good_pins h)) (by simp)), B2.out⟩
  | true =>
  replace RP := Lib.hid (RP.out.1 (by trivial))
  have q6 := O2.out.c6
  go_wp2_with fail
  refine (rises_any L.Ab L.nb L.cb b.black w2.heap.size w2 (by omega) O2.out.black).mono ?_
  rintro e w3 ⟨⟨r, rfl, hr⟩, q, hq⟩
  have b3 : Below w2.heap.size w2 w3 := hq ▸ drewN_below _ _
  have RB := Lib.hid hr
  have B3 := Lib.hid (B2.out.trans (b3.mono s2))
  have O3 := Lib.hid (O2.out.below b3)
  have s3 := b3.size
  clear hr hq b3 q6
  cases r with
  | false =>
    go_wp2
    go_ret
    exact ⟨SaysB.f (fun h => absurd (RB.out.2 (good_black h).1) (by simp)), B3.out⟩
  | true =>
  replace RB := Lib.hid (RB.out.1 (by trivial))
  have q6 := O3.out.c6
  go_wp2_with fail
  refine (hasAll_any p lo L ps b L.Ab L.nb L.cb b.black w3.heap.size w3 O3.out HC.out (by omega) (Nat.le_refl _) O3.out.black).mono ?_
  rintro e w4 ⟨⟨r, rfl, hr⟩, b4⟩
  have NB := Lib.hid hr
  have B4 := Lib.hid (B3.out.trans (b4.mono (by omega)))
  have O4 := Lib.hid (O3.out.below b4)
  have s4 := b4.size
  clear hr b4 q6
  cases r with
  | false =>
    go_wp2
    go_ret
    exact ⟨SaysB.f (fun h => absurd (NB.out.2 (good_black h).2) (by simp)), B4.out⟩
  | true =>
  replace NB := Lib.hid (NB.out.1 (by trivial))
  have hc0 : ∀ W, Below w4.heap.size w4 W → W.cell? ⟨p, 0, none⟩ = some (.slice L.R.Ak ps.length L.R.ck) := fun W h => (O4.out.below h).c0
  have hc1 : ∀ W, Below w4.heap.size w4 W → W.cell? ⟨p, 1, none⟩ = some (.slice L.R.Av ps.length L.R.cv) := fun W h => (O4.out.below h).c1
  have hKP : ∀ W, Below w4.heap.size w4 W → Calls Tryz.prog 44 #[.pointer (some ⟨p, 0, none⟩)] W fun e w' => ∃ A n c, e = .returned (.slice A n c) ∧ OwnI w' W.heap.size A n c (keptOf b) ∧ n ≤ 7 ∧ Below W.heap.size W w' :=
    fun W h => kept_any p lo L ps b W (O4.out.below h) RP.out.1 (by omega)
  have hRE : ∀ W, Below w4.heap.size w4 W → ∀ A n c, n ≤ 7 → n ≤ c → (A = none → c = 0) → Ints W W.heap.size A n (keptOf b) → Calls Tryz.prog 109 #[.agg #[.slice L.R.Ak ps.length L.R.ck, .slice L.R.Av ps.length L.R.cv], .slice A n c] W
      fun e w' => ∃ A n c l r, e = .returned (.tuple #[.slice A n c, .bool r]) ∧ Going b.cells (keptOf b) l [] r ∧ OwnI w' W.heap.size A n c l ∧ Below W.heap.size W w' :=
    fun W h A n c hn hc hz hi => reachedFrom_any lo L.R ps b.cells A n c (keptOf b) W.heap.size W (O4.out.below h).nodes HC.out (by omega) hc hz (Nat.le_refl _) hi
  have KP := Lib.hid hKP
  have RE := Lib.hid hRE
  clear hKP hRE
  go_wp2
  go_region_held3 (fun W => Below w4.heap.size w4 W) (first | exact (Below.refl _ _).drew | assumption)
    (first | (go_at_call 44
              refine (KP.out _ (by assumption)).mono ?_
              rintro e w5 ⟨A5, n5, c5, rfl, o5, hn5, b5⟩
              have h5 := (by assumption : Below w4.heap.size w4 _).trans (b5.mono (by assumption : Below w4.heap.size w4 _).size))
           | (go_at_call 109
              refine (RE.out _ (by assumption) _ _ _ hn5 o5.cap_ o5.nilc o5.ints).mono ?_
              rintro e w6 ⟨g6, n6, c6, l6, r6, rfl, hgo, o6, b6⟩
              have h6 := (by assumption : Below w4.heap.size w4 _).trans (b6.mono (by assumption : Below w4.heap.size w4 _).size)))
  have WH := Lib.hid hgo.whole_
  have DO := Lib.hid hgo.done
  have hl6 := hgo.len
  have hkl := keptOf_len b
  have hn6 := o6.len
  have L6 := Lib.hid o6
  have B6 := Lib.hid (B4.out.trans (h6.mono (by omega)))
  have O6 := Lib.hid (O4.out.below h6)
  have s6 : w4.heap.size ≤ w6.heap.size := h6.size
  clear hgo h6 h5 b5 b6 o5 o6 hc0 hc1
  cases r6 with
  | false =>
    go_wp2
    go_ret
    exact ⟨SaysB.f (fun h => absurd (WH.out.2 (good_whole h)) (by simp)), B6.out⟩
  | true =>
  have PRE := Lib.hid (pre_ok HC.out (by omega) RP.out RB.out (WH.out.1 (by trivial)))
  clear WH
  have q4 := O6.out.c4
  have q5 := O6.out.c5
  have q6 := O6.out.c6
  have q7 := O6.out.c7
  by_cases h0 : b.phase = 0
  · have he0 : (b.phase == 0) = true := by simp [h0]
    have GI := Lib.hid (good_idle PRE.out h0)
    clear h0
    by_cases hg : L.ng = 0
    · have hgb : ((L.ng : Int) == 0) = true := by simp [hg]
      have HG := Lib.hid (show b.grey = [] from List.eq_nil_of_length_eq_zero (by omega))
      clear hg
      by_cases hb : L.nb = 0
      · have hbb : ((L.nb : Int) == 0) = true := by simp [hb]
        have HB := Lib.hid (show b.black = [] from List.eq_nil_of_length_eq_zero (by omega))
        clear hb
        by_cases hc : b.cursor = 0
        · have hcb : (b.cursor == 0) = true := by simp [hc]
          have HCU := Lib.hid hc
          clear hc
          go_wp2
          go_ret
          exact ⟨SaysB.t (GI.out.2 ⟨HG.out, HB.out, HCU.out⟩), B6.out⟩
        · have hcb : (b.cursor == 0) = false := by simpa using hc
          have HCU := Lib.hid hc
          clear hc
          go_wp2
          go_ret
          exact ⟨SaysB.f (fun h => HCU.out (GI.out.1 h).2.2), B6.out⟩
      · have hbb : ((L.nb : Int) == 0) = false := by simpa using hb
        have HB := Lib.hid hb
        clear hb
        go_wp2
        go_ret
        exact ⟨SaysB.f (fun h => HB.out (by have := (GI.out.1 h).2.1; rw [← hlb, this]; rfl)), B6.out⟩
    · have hgb : ((L.ng : Int) == 0) = false := by simpa using hg
      have HG := Lib.hid hg
      clear hg
      go_wp2
      go_ret
      exact ⟨SaysB.f (fun h => HG.out (by have := (GI.out.1 h).1; rw [← hlg, this]; rfl)), B6.out⟩
  have he0 : (b.phase == 0) = false := by simpa using h0
  by_cases h1 : b.phase = 1
  · have he1 : (b.phase == 1) = true := by simp [h1]
    have GM := Lib.hid (good_mark PRE.out h1 RB.out NB.out)
    clear h1 h0
    go_wp2_with fail
    refine (greyRight_any p lo L ps b w6 O6.out HC.out RB.out.1).mono ?_
    rintro e w7 ⟨⟨r, rfl, hr⟩, b7⟩
    have GR := Lib.hid hr
    have B7 := Lib.hid (B6.out.trans (b7.mono (by omega)))
    have O7 := Lib.hid (O6.out.below b7)
    have s7 := b7.size
    clear hr b7 q4 q5 q6 q7
    cases r with
    | false =>
      go_wp2
      go_ret
      exact ⟨SaysB.f (fun h => absurd (GR.out.2 (GM.out.1 h).1) (by simp)), B7.out⟩
    | true =>
    go_wp2_with fail
    refine (noneMissed_any p lo L ps b w7 O7.out HC.out RP.out.1 RB.out.1 (by omega)).mono ?_
    rintro e w8 ⟨⟨r, rfl, hr⟩, b8⟩
    have MR := Lib.hid hr
    have B8 := Lib.hid (B7.out.trans (b8.mono (by omega)))
    have O8 := Lib.hid (O7.out.below b8)
    clear hr b8
    cases r with
    | false =>
      go_wp2
      go_ret
      exact ⟨SaysB.f (fun h => absurd (MR.out.2 (GM.out.1 h).2.1) (by simp)), B8.out⟩
    | true =>
    have q7 := O8.out.c7
    by_cases hc : b.cursor = 0
    · have hcb : (b.cursor == 0) = true := by simp [hc]
      have HCU := Lib.hid hc
      clear hc
      go_wp2
      go_ret
      exact ⟨SaysB.t (GM.out.2 ⟨GR.out.1 (by trivial), MR.out.1 (by trivial), HCU.out⟩), B8.out⟩
    · have hcb : (b.cursor == 0) = false := by simpa using hc
      have HCU := Lib.hid hc
      clear hc
      go_wp2
      go_ret
      exact ⟨SaysB.f (fun h => HCU.out (GM.out.1 h).2.2), B8.out⟩
  have he1 : (b.phase == 1) = false := by simpa using h1
  by_cases h2 : b.phase = 2
  · have he2 : (b.phase == 2) = true := by simp [h2]
    have GS := Lib.hid (good_sweep PRE.out h2 NB.out l6 DO.out)
    clear h2 h1 h0
    by_cases hg : L.ng = 0
    · have hgb : ((L.ng : Int) == 0) = true := by simp [hg]
      have HG := Lib.hid (show b.grey = [] from List.eq_nil_of_length_eq_zero (by omega))
      clear hg
      have hmf : ∀ (fn : Fn) (first cap : Array Value) (w : World), (Instr.makeFunc fn first cap).run Tryz.prog w = .ok (.func fn first cap) w := fun _ _ _ _ => rfl
      go_wp2_with fail
      refine (anyWhite_any p lo L ps b g6 n6 c6 l6 w6.heap.size w6 O6.out RB.out.1 (by have := HLN.out; omega) L6.out.ints).mono ?_
      rintro e w7 ⟨r, rfl, hr, b7⟩
      have WR := Lib.hid hr
      have B7 := Lib.hid (B6.out.trans (b7.mono (by omega)))
      have O7 := Lib.hid (O6.out.below b7)
      have s7 := b7.size
      clear hr b7 q4 q5 q6 q7 hmf
      cases r with
      | true =>
        go_wp2
        go_ret
        exact ⟨SaysB.f (fun h => absurd (WR.out.2 (fun x hx => .inr ((GS.out.1 h).2.1 x hx))) (by simp)), B7.out⟩
      | false =>
      have q7 := O7.out.c7
      by_cases hc : 0 ≤ b.cursor
      · have hcb : decide (0 ≤ b.cursor) = true := decide_eq_true hc
        have HCU := Lib.hid hc
        clear hc
        go_wp2
        go_ret
        exact ⟨SaysB.t (GS.out.2 ⟨HG.out, (fun x hx => (WR.out.1 (by trivial) x hx).elim (fun h => by rw [HG.out] at h; cases h) id), HCU.out⟩), B7.out⟩
      · have hcb : decide (0 ≤ b.cursor) = false := decide_eq_false hc
        have HCU := Lib.hid hc
        clear hc
        go_wp2
        go_ret
        exact ⟨SaysB.f (fun h => by have h1 := (GS.out.1 h).2.2; have h2 := HCU.out; omega), B7.out⟩
    · have hgb : ((L.ng : Int) == 0) = false := by simpa using hg
      have HG := Lib.hid hg
      clear hg
      go_wp2
      go_ret
      exact ⟨SaysB.f (fun h => HG.out (by have := (GS.out.1 h).1; rw [← hlg, this]; rfl)), B6.out⟩
  have he2 : (b.phase == 2) = false := by simpa using h2
  have NG := Lib.hid (good_else h0 h1 h2)
  clear h0 h1 h2
  go_wp2
  go_ret
  exact ⟨SaysB.f NG.out, B6.out⟩
end Go.Proofs.YtigdcmfmaehjfaaGreat

-- OwnO: An open base of the call's own: which blocks it has. No statement of the program is proved here.
namespace Go.Proofs.YtigdcmfmaehjfaaGreat
set_option maxRecDepth 20000
set_option linter.unusedVariables false
set_option linter.unusedSimpArgs false
open Go.RowKit

/-- the blocks of the nodes. -/
def NBlk (R : SR) (ps : List (Int × NV)) (g : Nat) : Prop := R.at_ g ∨ ∃ y ∈ ps, NodeBlk y.2.v g
/-- the block of a row. -/
def RBlk (A : Option Addr) (n c g : Nat) : Prop := (Value.slice A n c).ownBlock = some g
/-- its lists are of the call's own, each in a block of its own. -/
structure OwnO (w : World) (lo : Nat) (L : OLay) (ps : List (Int × NV)) (b : MBase) : Prop where
  nodes : NodesIs w lo L.R ps b.cells
  pins : OwnI w lo L.Ap L.np L.cp b.pins
  grey : OwnI w lo L.Ag L.ng L.cg b.grey
  black : OwnI w lo L.Ab L.nb L.cb b.black
  pn : ∀ g, RBlk L.Ap L.np L.cp g → ¬ NBlk L.R ps g
  gn : ∀ g, RBlk L.Ag L.ng L.cg g → ¬ NBlk L.R ps g
  bn : ∀ g, RBlk L.Ab L.nb L.cb g → ¬ NBlk L.R ps g
  pg : ∀ g, RBlk L.Ap L.np L.cp g → ¬ RBlk L.Ag L.ng L.cg g
  pb : ∀ g, RBlk L.Ap L.np L.cp g → ¬ RBlk L.Ab L.nb L.cb g
  gb : ∀ g, RBlk L.Ag L.ng L.cg g → ¬ RBlk L.Ab L.nb L.cb g
  sum : L.np + L.ng + L.nb ≤ 1048576
/-- all its blocks. -/
def OLay.blk (L : OLay) (ps : List (Int × NV)) (g : Nat) : Prop := NBlk L.R ps g ∨ RBlk L.Ap L.np L.cp g ∨ RBlk L.Ag L.ng L.cg g ∨ RBlk L.Ab L.nb L.cb g
/-- its eight cells. -/
def OLay.cells (L : OLay) (n : Nat) (b : MBase) : Array Value := #[.slice L.R.Ak n L.R.ck, .slice L.R.Av n L.R.cv, .int .i64 b.head, .slice L.Ap L.np L.cp, .int .i64 b.phase, .slice L.Ag L.ng L.cg, .slice L.Ab L.nb L.cb, .int .i64 b.cursor]
section
variable {w w' : World} {p lo : Nat} {L : OLay} {ps : List (Int × NV)} {b : MBase}
theorem NodesIs.blk_lt {R : SR} {cs : List (Int × List Int)} (h : NodesIs w lo R ps cs) {g : Nat} (hg : NBlk R ps g) : lo ≤ g ∧ g < w.heap.size := by
  rcases hg with hg | ⟨y, hy, hg⟩
  · exact h.sl.lt g hg
  · exact (h.own y hy).blk hg
theorem OwnO.blk_lt (h : OwnO w lo L ps b) {g : Nat} (hg : L.blk ps g) : lo ≤ g ∧ g < w.heap.size := by
  rcases hg with hg | hg | hg | hg
  · exact h.nodes.blk_lt hg
  · exact h.pins.lt g hg
  · exact h.grey.lt g hg
  · exact h.black.lt g hg
theorem OwnO.touch {S : Nat → Prop} (h : OwnO w lo L ps b) (t : Touch S w w') (hn : ∀ g, L.blk ps g → ¬ S g) : OwnO w' lo L ps b :=
  ⟨h.nodes.touch t (fun g hg => hn g (.inl (.inl hg))) (fun y hy g hg => hn g (.inl (.inr ⟨y, hy, hg⟩))), h.pins.touch t (fun g hg => hn g (.inr (.inl hg))), h.grey.touch t (fun g hg => hn g (.inr (.inr (.inl hg)))), h.black.touch t (fun g hg => hn g (.inr (.inr (.inr hg)))),
    h.pn, h.gn, h.bn, h.pg, h.pb, h.gb, h.sum⟩
theorem OwnO.below (h : OwnO w lo L ps b) (hb : Below w.heap.size w w') : OwnO w' lo L ps b := h.touch (S := fun _ => False) (Touch.of_below hb) (fun _ _ h => h)
theorem OwnO.inn (h : OwnO w lo L ps b) (hx : Box w p 66 (L.cells ps.length b)) : OpenIs w p lo L ps b :=
  ⟨hx, h.nodes, h.pins.ints, h.grey.ints, h.black.ints, h.sum, h.pins.cap_, h.grey.cap_, h.grey.nilc⟩
end
theorem OwnI.lo {w : World} {lo lo' n c : Nat} {A : Option Addr} {xs : List Int} (h : OwnI w lo A n c xs) (hl : lo' ≤ lo) : OwnI w lo' A n c xs := h.base hl
/-- a box of 8 cells, written anew. -/
theorem touch8 (w : World) (g : Nat) (c0 c1 c2 c3 c4 c5 c6 c7 : Value) : Touch (fun k => k = g) w ((((((((w.setCell ⟨g, 0, none⟩ c0).setCell ⟨g, 1, none⟩ c1).setCell ⟨g, 2, none⟩ c2).setCell ⟨g, 3, none⟩ c3).setCell ⟨g, 4, none⟩ c4).setCell ⟨g, 5, none⟩ c5).setCell ⟨g, 6, none⟩ c6).setCell ⟨g, 7, none⟩ c7) := by
  have t : Touch (fun k => k = g) w (w.setCell ⟨g, 0, none⟩ c0) := touch_set w g 0 c0 rfl
  generalize w.setCell ⟨g, 0, none⟩ c0 = w0 at t ⊢
  have t : Touch (fun k => k = g) w (w0.setCell ⟨g, 1, none⟩ c1) := t.trans (touch_set w0 g 1 c1 rfl)
  generalize w0.setCell ⟨g, 1, none⟩ c1 = w1 at t ⊢
  have t : Touch (fun k => k = g) w (w1.setCell ⟨g, 2, none⟩ c2) := t.trans (touch_set w1 g 2 c2 rfl)
  generalize w1.setCell ⟨g, 2, none⟩ c2 = w2 at t ⊢
  have t : Touch (fun k => k = g) w (w2.setCell ⟨g, 3, none⟩ c3) := t.trans (touch_set w2 g 3 c3 rfl)
  generalize w2.setCell ⟨g, 3, none⟩ c3 = w3 at t ⊢
  have t : Touch (fun k => k = g) w (w3.setCell ⟨g, 4, none⟩ c4) := t.trans (touch_set w3 g 4 c4 rfl)
  generalize w3.setCell ⟨g, 4, none⟩ c4 = w4 at t ⊢
  have t : Touch (fun k => k = g) w (w4.setCell ⟨g, 5, none⟩ c5) := t.trans (touch_set w4 g 5 c5 rfl)
  generalize w4.setCell ⟨g, 5, none⟩ c5 = w5 at t ⊢
  have t : Touch (fun k => k = g) w (w5.setCell ⟨g, 6, none⟩ c6) := t.trans (touch_set w5 g 6 c6 rfl)
  generalize w5.setCell ⟨g, 6, none⟩ c6 = w6 at t ⊢
  have t : Touch (fun k => k = g) w (w6.setCell ⟨g, 7, none⟩ c7) := t.trans (touch_set w6 g 7 c7 rfl)
  generalize w6.setCell ⟨g, 7, none⟩ c7 = w7 at t ⊢
  exact t
theorem set8 {w : World} {g : Nat} {t : TypeId} {a0 a1 a2 a3 a4 a5 a6 a7 : Value} (h : Box w g t #[a0, a1, a2, a3, a4, a5, a6, a7]) (c0 c1 c2 c3 c4 c5 c6 c7 : Value) :
    Box ((((((((w.setCell ⟨g, 0, none⟩ c0).setCell ⟨g, 1, none⟩ c1).setCell ⟨g, 2, none⟩ c2).setCell ⟨g, 3, none⟩ c3).setCell ⟨g, 4, none⟩ c4).setCell ⟨g, 5, none⟩ c5).setCell ⟨g, 6, none⟩ c6).setCell ⟨g, 7, none⟩ c7) g t #[c0, c1, c2, c3, c4, c5, c6, c7] ∧ Touch (fun k => k = g) w ((((((((w.setCell ⟨g, 0, none⟩ c0).setCell ⟨g, 1, none⟩ c1).setCell ⟨g, 2, none⟩ c2).setCell ⟨g, 3, none⟩ c3).setCell ⟨g, 4, none⟩ c4).setCell ⟨g, 5, none⟩ c5).setCell ⟨g, 6, none⟩ c6).setCell ⟨g, 7, none⟩ c7) := by
  refine ⟨?_, touch8 w g c0 c1 c2 c3 c4 c5 c6 c7⟩
  have h : Box (w.setCell ⟨g, 0, none⟩ c0) g t #[c0, a1, a2, a3, a4, a5, a6, a7] := h.set_ 0 c0
  generalize w.setCell ⟨g, 0, none⟩ c0 = w0 at h ⊢
  have h : Box (w0.setCell ⟨g, 1, none⟩ c1) g t #[c0, c1, a2, a3, a4, a5, a6, a7] := h.set_ 1 c1
  generalize w0.setCell ⟨g, 1, none⟩ c1 = w1 at h ⊢
  have h : Box (w1.setCell ⟨g, 2, none⟩ c2) g t #[c0, c1, c2, a3, a4, a5, a6, a7] := h.set_ 2 c2
  generalize w1.setCell ⟨g, 2, none⟩ c2 = w2 at h ⊢
  have h : Box (w2.setCell ⟨g, 3, none⟩ c3) g t #[c0, c1, c2, c3, a4, a5, a6, a7] := h.set_ 3 c3
  generalize w2.setCell ⟨g, 3, none⟩ c3 = w3 at h ⊢
  have h : Box (w3.setCell ⟨g, 4, none⟩ c4) g t #[c0, c1, c2, c3, c4, a5, a6, a7] := h.set_ 4 c4
  generalize w3.setCell ⟨g, 4, none⟩ c4 = w4 at h ⊢
  have h : Box (w4.setCell ⟨g, 5, none⟩ c5) g t #[c0, c1, c2, c3, c4, c5, a6, a7] := h.set_ 5 c5
  generalize w4.setCell ⟨g, 5, none⟩ c5 = w5 at h ⊢
  have h : Box (w5.setCell ⟨g, 6, none⟩ c6) g t #[c0, c1, c2, c3, c4, c5, c6, a7] := h.set_ 6 c6
  generalize w5.setCell ⟨g, 6, none⟩ c6 = w6 at h ⊢
  have h : Box (w6.setCell ⟨g, 7, none⟩ c7) g t #[c0, c1, c2, c3, c4, c5, c6, c7] := h.set_ 7 c7
  generalize w6.setCell ⟨g, 7, none⟩ c7 = w7 at h ⊢
  exact h
/-- a box of 7 cells, written anew. -/
theorem touch7 (w : World) (g : Nat) (c0 c1 c2 c3 c4 c5 c6 : Value) : Touch (fun k => k = g) w (((((((w.setCell ⟨g, 0, none⟩ c0).setCell ⟨g, 1, none⟩ c1).setCell ⟨g, 2, none⟩ c2).setCell ⟨g, 3, none⟩ c3).setCell ⟨g, 4, none⟩ c4).setCell ⟨g, 5, none⟩ c5).setCell ⟨g, 6, none⟩ c6) := by
  have t : Touch (fun k => k = g) w (w.setCell ⟨g, 0, none⟩ c0) := touch_set w g 0 c0 rfl
  generalize w.setCell ⟨g, 0, none⟩ c0 = w0 at t ⊢
  have t : Touch (fun k => k = g) w (w0.setCell ⟨g, 1, none⟩ c1) := t.trans (touch_set w0 g 1 c1 rfl)
  generalize w0.setCell ⟨g, 1, none⟩ c1 = w1 at t ⊢
  have t : Touch (fun k => k = g) w (w1.setCell ⟨g, 2, none⟩ c2) := t.trans (touch_set w1 g 2 c2 rfl)
  generalize w1.setCell ⟨g, 2, none⟩ c2 = w2 at t ⊢
  have t : Touch (fun k => k = g) w (w2.setCell ⟨g, 3, none⟩ c3) := t.trans (touch_set w2 g 3 c3 rfl)
  generalize w2.setCell ⟨g, 3, none⟩ c3 = w3 at t ⊢
  have t : Touch (fun k => k = g) w (w3.setCell ⟨g, 4, none⟩ c4) := t.trans (touch_set w3 g 4 c4 rfl)
  generalize w3.setCell ⟨g, 4, none⟩ c4 = w4 at t ⊢
  have t : Touch (fun k => k = g) w (w4.setCell ⟨g, 5, none⟩ c5) := t.trans (touch_set w4 g 5 c5 rfl)
  generalize w4.setCell ⟨g, 5, none⟩ c5 = w5 at t ⊢
  have t : Touch (fun k => k = g) w (w5.setCell ⟨g, 6, none⟩ c6) := t.trans (touch_set w5 g 6 c6 rfl)
  generalize w5.setCell ⟨g, 6, none⟩ c6 = w6 at t ⊢
  exact t
theorem set7 {w : World} {g : Nat} {t : TypeId} {a0 a1 a2 a3 a4 a5 a6 : Value} (h : Box w g t #[a0, a1, a2, a3, a4, a5, a6]) (c0 c1 c2 c3 c4 c5 c6 : Value) :
    Box (((((((w.setCell ⟨g, 0, none⟩ c0).setCell ⟨g, 1, none⟩ c1).setCell ⟨g, 2, none⟩ c2).setCell ⟨g, 3, none⟩ c3).setCell ⟨g, 4, none⟩ c4).setCell ⟨g, 5, none⟩ c5).setCell ⟨g, 6, none⟩ c6) g t #[c0, c1, c2, c3, c4, c5, c6] ∧ Touch (fun k => k = g) w (((((((w.setCell ⟨g, 0, none⟩ c0).setCell ⟨g, 1, none⟩ c1).setCell ⟨g, 2, none⟩ c2).setCell ⟨g, 3, none⟩ c3).setCell ⟨g, 4, none⟩ c4).setCell ⟨g, 5, none⟩ c5).setCell ⟨g, 6, none⟩ c6) := by
  refine ⟨?_, touch7 w g c0 c1 c2 c3 c4 c5 c6⟩
  have h : Box (w.setCell ⟨g, 0, none⟩ c0) g t #[c0, a1, a2, a3, a4, a5, a6] := h.set_ 0 c0
  generalize w.setCell ⟨g, 0, none⟩ c0 = w0 at h ⊢
  have h : Box (w0.setCell ⟨g, 1, none⟩ c1) g t #[c0, c1, a2, a3, a4, a5, a6] := h.set_ 1 c1
  generalize w0.setCell ⟨g, 1, none⟩ c1 = w1 at h ⊢
  have h : Box (w1.setCell ⟨g, 2, none⟩ c2) g t #[c0, c1, c2, a3, a4, a5, a6] := h.set_ 2 c2
  generalize w1.setCell ⟨g, 2, none⟩ c2 = w2 at h ⊢
  have h : Box (w2.setCell ⟨g, 3, none⟩ c3) g t #[c0, c1, c2, c3, a4, a5, a6] := h.set_ 3 c3
  generalize w2.setCell ⟨g, 3, none⟩ c3 = w3 at h ⊢
  have h : Box (w3.setCell ⟨g, 4, none⟩ c4) g t #[c0, c1, c2, c3, c4, a5, a6] := h.set_ 4 c4
  generalize w3.setCell ⟨g, 4, none⟩ c4 = w4 at h ⊢
  have h : Box (w4.setCell ⟨g, 5, none⟩ c5) g t #[c0, c1, c2, c3, c4, c5, a6] := h.set_ 5 c5
  generalize w4.setCell ⟨g, 5, none⟩ c5 = w5 at h ⊢
  have h : Box (w5.setCell ⟨g, 6, none⟩ c6) g t #[c0, c1, c2, c3, c4, c5, c6] := h.set_ 6 c6
  generalize w5.setCell ⟨g, 6, none⟩ c6 = w6 at h ⊢
  exact h
theorem OwnO.not_box {w : World} {lo g : Nat} {L : OLay} {ps : List (Int × NV)} {b : MBase} {cs : Array Value} (h : OwnO w lo L ps b) (hb : Box w g 66 cs) : ¬ L.blk ps g := fun e => by
  rcases e with (e | ⟨y, hy, k, Ap, np, cp, Ak, nk, ck, s, ev, e⟩) | e | e | e
  · exact h.nodes.sl.not_at hb (by decide) (by decide) e
  · obtain ⟨Ap', np', cp', Ak', nk', ck', ev2, _, _, _, h4, h5, _⟩ := h.nodes.own y hy
    rw [ev] at ev2
    cases ev2
    rcases e with e | e
    · exact own_box_ne h4 hb (by decide) e
    · exact own_box_ne h5 hb (by decide) e
  · exact own_box_ne h.pins hb (by decide) e
  · exact own_box_ne h.grey hb (by decide) e
  · exact own_box_ne h.black hb (by decide) e
/-- a block that was made just ahead of a call stands behind it. -/
theorem block_after {W w' : World} {o : Obj} (b : Below (W.alloc o).heap.size (W.alloc o) w') : w'.heap[W.heap.size]? = some o := (b.block _ (by simp)).trans (heap_alloc_new W o)
theorem block_after_d {W w' : World} {o : Obj} (b : Below (W.alloc o).drew.heap.size (W.alloc o).drew w') : w'.heap[W.heap.size]? = some o := (b.block _ (show W.heap.size < (W.alloc o).heap.size by simp)).trans (heap_alloc_new W o)
/-- three rows, made one behind the other, behind the nodes. -/
theorem own3 {w w5 w6 w7 : World} {lo : Nat} {R : SR} {ps : List (Int × NV)} {b : MBase} {A5 A6 A7 : Option Addr} {n5 c5 n6 c6 n7 c7 s5 s6 s7 : Nat} (hn : NodesIs w lo R ps b.cells) (hlo : lo ≤ w.heap.size) (hs5 : w.heap.size ≤ s5) (hs6 : w5.heap.size ≤ s6) (hs7 : w6.heap.size ≤ s7)
    (b5 : Below w.heap.size w w5) (o5 : OwnI w5 s5 A5 n5 c5 b.pins) (b6 : Below w5.heap.size w5 w6) (o6 : OwnI w6 s6 A6 n6 c6 b.grey) (b7 : Below w6.heap.size w6 w7) (o7 : OwnI w7 s7 A7 n7 c7 b.black) (hsum : n5 + n6 + n7 ≤ 1048576) :
    OwnO w7 lo ⟨R, A5, n5, c5, A6, n6, c6, A7, n7, c7⟩ ps b := by
  have z5 := b5.size
  have z6 := b6.size
  have z7 := b7.size
  have l5 := fun g hg => o5.lt g hg
  have l6 := fun g hg => o6.lt g hg
  have l7 := fun g hg => o7.lt g hg
  have ln := fun g hg => hn.blk_lt (g := g) hg
  refine ⟨hn.below (b5.trans ((b6.trans (b7.mono z6)).mono z5)), (o5.lo (by omega)).below (b6.trans (b7.mono z6)), (o6.lo (by omega)).below b7, o7.lo (by omega), ?_, ?_, ?_, ?_, ?_, ?_, hsum⟩
  · intro g hg e; have := l5 g hg; have := ln g e; omega
  · intro g hg e; have := l6 g hg; have := ln g e; omega
  · intro g hg e; have := l7 g hg; have := ln g e; omega
  · intro g hg e; have := l5 g hg; have := l6 g e; omega
  · intro g hg e; have := l5 g hg; have := l7 g e; omega
  · intro g hg e; have := l6 g hg; have := l7 g e; omega
theorem below_set8 {a w : World} {B g : Nat} (h : Below B a w) (hB : B ≤ g) (hs : B ≤ w.heap.size) (c0 c1 c2 c3 c4 c5 c6 c7 : Value) :
    Below B a ((((((((w.setCell ⟨g, 0, none⟩ c0).setCell ⟨g, 1, none⟩ c1).setCell ⟨g, 2, none⟩ c2).setCell ⟨g, 3, none⟩ c3).setCell ⟨g, 4, none⟩ c4).setCell ⟨g, 5, none⟩ c5).setCell ⟨g, 6, none⟩ c6).setCell ⟨g, 7, none⟩ c7) :=
  h.trans ((touch8 w g c0 c1 c2 c3 c4 c5 c6 c7).below hs (fun k hk e => by omega))
end Go.Proofs.YtigdcmfmaehjfaaGreat

-- Opened: The program opens a base: its opened.
namespace Go.Proofs.YtigdcmfmaehjfaaGreat
set_option maxRecDepth 100000
set_option linter.unusedVariables false
set_option linter.unusedSimpArgs false
open Go.RowKit

theorem le_of_box {w : World} {g n : Nat} {t : TypeId} {cs : Array Value} (h : Box w g t cs) (hn : n ≤ g) : n ≤ g := hn
/-- what opened answers. -/
def OpenedIs (w : World) (b : MBase) (e : Ending) (w' : World) : Prop :=
  ∃ (L : OLay) (k : Nat) (b0 : MBase) (r : Bool), e = .returned (.tuple #[.agg (L.cells k b0), .bool r]) ∧ Below w.heap.size w w' ∧ ((r = true ∧ BaseGood b ∧ b0 = b ∧ ∃ ps lo, k = ps.length ∧ w.heap.size ≤ lo ∧ lo ≤ w'.heap.size ∧ OwnO w' lo L ps b) ∨ (r = false ∧ ¬ BaseGood b))
set_option maxHeartbeats 4000000 in
theorem opened_any (L : BLay) (b : MBase) (B : Nat) (w : World) (fit : BaseFit L b) (hB : B ≤ w.heap.size) (hb : BaseIn w B L b) :
    Calls Tryz.prog 42 #[L.v b] w (OpenedIs w b) := by
  have FIT := Lib.hid fit
  have HB0 := Lib.hid (hb.more hB)
  have hsum := fit.sum
  obtain ⟨w1, hw1⟩ : ∃ w1, (w.alloc (.cells #[.slice L.A L.n L.c, .int .i64 b.head, .slice L.Ap L.np L.cp, .int .i64 b.phase, .slice L.Ag L.ng L.cg, .slice L.Ab L.nb L.cb, .int .i64 b.cursor] 30)).alloc (.cells #[.slice none 0 0, .slice none 0 0, .int .i64 0, .slice none 0 0, .int .i64 0, .slice none 0 0, .slice none 0 0, .int .i64 0] 66) = w1 := ⟨_, rfl⟩
  have x1 : Box w1 w.heap.size 30 #[.slice L.A L.n L.c, .int .i64 b.head, .slice L.Ap L.np L.cp, .int .i64 b.phase, .slice L.Ag L.ng L.cg, .slice L.Ab L.nb L.cb, .int .i64 b.cursor] := hw1 ▸ heap2_0 _ _ _
  have r1 : Box w1 (w.heap.size + 1) 66 #[.slice none 0 0, .slice none 0 0, .int .i64 0, .slice none 0 0, .int .i64 0, .slice none 0 0, .slice none 0 0, .int .i64 0] := hw1 ▸ heap2_1 _ _ _
  have b1 : Below w.heap.size w w1 := hw1 ▸ below2 _ _ _
  have s1 : w1.heap.size = w.heap.size + 2 := hw1 ▸ size2 _ _ _
  have X1 := Lib.hid x1
  have R1 := Lib.hid r1
  have B1 := Lib.hid b1
  have HB := Lib.hid (HB0.out.below b1)
  have hcell : ∀ W, Below w1.heap.size w1 W → ∀ k, W.cell? ⟨w.heap.size, k, none⟩ = (#[.slice L.A L.n L.c, .int .i64 b.head, .slice L.Ap L.np L.cp, .int .i64 b.phase, .slice L.Ag L.ng L.cg, .slice L.Ab L.nb L.cb, .int .i64 b.cursor] : Array Value)[k]? := fun W hW k => (X1.out.below hW x1.lt).cell k
  have CE := Lib.hid hcell
  have q0 : w1.cell? ⟨w.heap.size, 0, none⟩ = some (.slice L.A L.n L.c) := by simpa using hcell w1 (Below.refl _ _) 0
  clear x1 r1 b1 HB0 hcell hb fit
  unfold BLay.v
  go_enter Tryz.func42, Tryz.ntmps42
  go_wp2_with fail
  refine (nodesOf_any L.A L.n L.c b.cells w.heap.size w1 (by omega) FIT.out.c FIT.out.z FIT.out.cell (by omega) HB.out.cells).mono ?_
  rintro e w2 ⟨R, ps, r, rfl, b2, hor⟩
  have s2 := b2.size
  have B2 := Lib.hid b2
  clear b2 q0 hw1
  rcases hor with ⟨rfl, hR, hnd⟩ | ⟨rfl, hno, hR0, hp0⟩
  · obtain ⟨w3, hw3⟩ : ∃ w3, w2.alloc (.cells #[.slice R.Ak ps.length R.ck, .slice R.Av ps.length R.cv] 62) = w3 := ⟨_, rfl⟩
    have b3 : Below w2.heap.size w2 w3 := hw3 ▸ (Below.refl _ _).alloc (Nat.le_refl _) _
    have N3 := Lib.hid (show Box w3 w2.heap.size 62 #[.slice R.Ak ps.length R.ck, .slice R.Av ps.length R.cv] from hw3 ▸ heap_alloc_new _ _)
    have s3 : w3.heap.size = w2.heap.size + 1 := hw3 ▸ by simp
    have B3 := Lib.hid (B2.out.trans (b3.mono s2))
    have D3 := Lib.hid (hnd.below b3)
    have RT := Lib.hid hR
    have HB3 := Lib.hid (HB.out.below (B3.out.mono (by omega)))
    have R3 := Lib.hid (R1.out.below B3.out (by omega))
    clear hnd hR b3
    unfold SR.kv SR.vv
    have hc0 : ∀ W, Below w3.heap.size w3 W → W.cell? ⟨w2.heap.size, 0, none⟩ = some (.slice R.Ak ps.length R.ck) := fun W h => by simpa using (N3.out.below h (by omega)).cell 0
    have hc1 : ∀ W, Below w3.heap.size w3 W → W.cell? ⟨w2.heap.size, 1, none⟩ = some (.slice R.Av ps.length R.cv) := fun W h => by simpa using (N3.out.below h (by omega)).cell 1
    have hx : ∀ k W, Below w3.heap.size w3 W → W.cell? ⟨w.heap.size, k, none⟩ = (#[.slice L.A L.n L.c, .int .i64 b.head, .slice L.Ap L.np L.cp, .int .i64 b.phase, .slice L.Ag L.ng L.cg, .slice L.Ab L.nb L.cb, .int .i64 b.cursor] : Array Value)[k]? := fun k W h => CE.out W (B3.out.trans (h.mono (by omega))) k
    have hx1 : ∀ W, Below w3.heap.size w3 W → W.cell? ⟨w.heap.size, 1, none⟩ = some (.int .i64 b.head) := fun W h => by simpa using hx 1 W h
    have hx2 : ∀ W, Below w3.heap.size w3 W → W.cell? ⟨w.heap.size, 2, none⟩ = some (.slice L.Ap L.np L.cp) := fun W h => by simpa using hx 2 W h
    have hx3 : ∀ W, Below w3.heap.size w3 W → W.cell? ⟨w.heap.size, 3, none⟩ = some (.int .i64 b.phase) := fun W h => by simpa using hx 3 W h
    have hx4 : ∀ W, Below w3.heap.size w3 W → W.cell? ⟨w.heap.size, 4, none⟩ = some (.slice L.Ag L.ng L.cg) := fun W h => by simpa using hx 4 W h
    have hx5 : ∀ W, Below w3.heap.size w3 W → W.cell? ⟨w.heap.size, 5, none⟩ = some (.slice L.Ab L.nb L.cb) := fun W h => by simpa using hx 5 W h
    have hx6 : ∀ W, Below w3.heap.size w3 W → W.cell? ⟨w.heap.size, 6, none⟩ = some (.int .i64 b.cursor) := fun W h => by simpa using hx 6 W h
    have hCP : ∀ W, Below w3.heap.size w3 W → Calls Tryz.prog 72 #[.slice L.Ap L.np L.cp] W fun e w' => ∃ A' n' c', e = .returned (.slice A' n' c') ∧ OwnI w' W.heap.size A' n' c' b.pins ∧ Below W.heap.size W w' :=
      fun W h => clone_any L.Ap L.np L.cp b.pins w.heap.size W (by omega) (by have := h.size; omega) (HB3.out.below (h.mono (by omega))).pins
    have hCG : ∀ W, Below w3.heap.size w3 W → Calls Tryz.prog 72 #[.slice L.Ag L.ng L.cg] W fun e w' => ∃ A' n' c', e = .returned (.slice A' n' c') ∧ OwnI w' W.heap.size A' n' c' b.grey ∧ Below W.heap.size W w' :=
      fun W h => clone_any L.Ag L.ng L.cg b.grey w.heap.size W (by omega) (by have := h.size; omega) (HB3.out.below (h.mono (by omega))).grey
    have hCB : ∀ W, Below w3.heap.size w3 W → Calls Tryz.prog 72 #[.slice L.Ab L.nb L.cb] W fun e w' => ∃ A' n' c', e = .returned (.slice A' n' c') ∧ OwnI w' W.heap.size A' n' c' b.black ∧ Below W.heap.size W w' :=
      fun W h => clone_any L.Ab L.nb L.cb b.black w.heap.size W (by omega) (by have := h.size; omega) (HB3.out.below (h.mono (by omega))).black
    have CP := Lib.hid hCP
    have CG := Lib.hid hCG
    have CB := Lib.hid hCB
    have S3 := Lib.hid s3
    clear hCP hCG hCB hx s3
    go_wp2
    clear hw3
    go_cut [6] (fun s6 wx => ∃ (q : Nat) (OL : OLay), s6 = .pointer (some ⟨q, 0, none⟩) ∧ w3.heap.size ≤ q ∧ Box wx q 66 (OL.cells ps.length b) ∧ OL.R = R ∧ OwnO wx w1.heap.size OL ps b ∧ (∀ g, OL.blk ps g → g ≠ q) ∧ Below w3.heap.size w3 wx)
    case first =>
      go_region_held3 (fun W => Below w3.heap.size w3 W) (first | with_reducible assumption | with_reducible exact (Below.refl _ _).drew | with_reducible exact (Below.refl _ _).drew.alloc (Nat.le_refl _) _ | with_reducible exact h7.alloc h7.size _ | with_reducible exact h6.alloc h6.size _ | with_reducible exact h5.alloc h5.size _ | with_reducible exact ((Below.refl _ _).alloc (Nat.le_refl _) _).drew | with_reducible exact below_set8 h7 (by first | exact Nat.le_refl _ | exact h5.size | exact h6.size) h7.size _ _ _ _ _ _ _ _ | (trace_state; fail))
        (first | (go_at_call 72
                  with_reducible refine (CP.out _ (by assumption)).mono ?_
                  rintro e w5 ⟨A5, n5, c5, rfl, o5, b5⟩
                  have h5 := (by assumption : Below w3.heap.size w3 _).trans (b5.mono (by assumption : Below w3.heap.size w3 _).size)
                  try (have Z := block_after_d b5))
               | (go_at_call 72
                  with_reducible refine (CG.out _ (by assumption)).mono ?_
                  rintro e w6 ⟨A6, n6, c6, rfl, o6, b6⟩
                  have h6 := (by assumption : Below w3.heap.size w3 _).trans (b6.mono (by assumption : Below w3.heap.size w3 _).size)
                  have k6 : Below w5.heap.size w5 w6 := by first | exact b6 | exact ((Below.refl _ _).alloc (Nat.le_refl _) _).trans (b6.mono (by simp))
                  try (have Z := block_after b6)
                  try (have Z := (b6.block _ (Array.getElem?_eq_some_iff.1 Z).1).trans Z))
               | (go_at_call 72
                  with_reducible refine (CB.out _ (by assumption)).mono ?_
                  rintro e w7 ⟨A7, n7, c7, rfl, o7, b7⟩
                  have h7 := (by assumption : Below w3.heap.size w3 _).trans (b7.mono (by assumption : Below w3.heap.size w3 _).size)
                  have k7 : Below w6.heap.size w6 w7 := by first | exact b7 | exact ((Below.refl _ _).alloc (Nat.le_refl _) _).trans (b7.mono (by simp))
                  try (have Z := block_after b7)
                  try (have Z := (b7.block _ (Array.getElem?_eq_some_iff.1 Z).1).trans Z)
                  try (have Z : Box w7 _ _ _ := Z
                       have z0 := Z.cell 0
                       have z1 := Z.cell 1
                       have z2 := Z.cell 2
                       have z3 := Z.cell 3
                       have z4 := Z.cell 4
                       have z5 := Z.cell 5
                       have z6 := Z.cell 6
                       have z7 := Z.cell 7
                       have zf := Z.free
                       simp at z0 z1 z2 z3 z4 z5 z6 z7)))
      focus
        have OW : OwnO w7 w1.heap.size ⟨R, A5, n5, c5, A6, n6, c6, A7, n7, c7⟩ ps b := own3 D3.out (by have := S3.out; omega) (by first | exact Nat.le_refl _ | simp) (by first | exact Nat.le_refl _ | simp) (by first | exact Nat.le_refl _ | simp) h5 o5 k6 o6 k7 o7
          (by have := o5.len; have := o6.len; have := o7.len; have := HB3.out.pins.1; have := HB3.out.grey.1; have := HB3.out.black.1; omega)
        have OW := Lib.hid OW
        have H7 := Lib.hid h7
        clear hc0 hc1 hx1 hx2 hx3 hx4 hx5 hx6 o5 o6 o7 k6 k7
        obtain ⟨w8, hw8⟩ : ∃ w8, w7.alloc (.cells #[.slice R.Ak ps.length R.ck, .slice R.Av ps.length R.cv, .int .i64 b.head, .slice A5 n5 c5, .int .i64 b.phase, .slice A6 n6 c6, .slice A7 n7 c7, .int .i64 b.cursor] 66) = w8 := ⟨_, rfl⟩
        have X8 := Lib.hid (show Box w8 w7.heap.size 66 (OLay.cells ⟨R, A5, n5, c5, A6, n6, c6, A7, n7, c7⟩ ps.length b) from hw8 ▸ heap_alloc_new _ _)
        have B8 := Lib.hid (show Below w7.heap.size w7 w8 from hw8 ▸ (Below.refl _ _).alloc (Nat.le_refl _) _)
        subst hw8
        clear h5 h6 h7 b5 b6 b7
        go_wp2
        go_meet
        case rel => exact ⟨w7.heap.size, ⟨R, A5, n5, c5, A6, n6, c6, A7, n7, c7⟩, rfl, H7.out.size, X8.out, rfl, OW.out.below B8.out, (fun g hg e => by have := (OW.out.blk_lt hg).2; omega), H7.out.trans (B8.out.mono H7.out.size)⟩
      all_goals
        have OW : OwnO w7 w1.heap.size ⟨R, A5, n5, c5, A6, n6, c6, A7, n7, c7⟩ ps b := own3 D3.out (by have := S3.out; omega) (by first | exact Nat.le_refl _ | simp) (by first | exact Nat.le_refl _ | simp) (by first | exact Nat.le_refl _ | simp) h5 o5 k6 o6 k7 o7
          (by have := o5.len; have := o6.len; have := o7.len; have := HB3.out.pins.1; have := HB3.out.grey.1; have := HB3.out.black.1; omega)
        have OW := Lib.hid OW
        have H7 := Lib.hid h7
        clear hc0 hc1 hx1 hx2 hx3 hx4 hx5 hx6 o5 o6 o7 k6 k7
        have Z8 := set8 Z (.slice R.Ak ps.length R.ck) (.slice R.Av ps.length R.cv) (.int .i64 b.head) (.slice A5 n5 c5) (.int .i64 b.phase) (.slice A6 n6 c6) (.slice A7 n7 c7) (.int .i64 b.cursor)
        have NZ := Lib.hid (OW.out.not_box Z)
        have Z8 := Lib.hid Z8
        have HZB := Lib.hid (le_of_box (n := w3.heap.size) Z (by first | exact Nat.le_refl _ | exact h5.size | exact h6.size))
        clear Z z0 z1 z2 z3 z4 z5 z6 z7 zf h5 h6 h7 b5 b6 b7
        go_wp2
        go_meet
        case rel => exact ⟨_, ⟨R, A5, n5, c5, A6, n6, c6, A7, n7, c7⟩, rfl, HZB.out, Z8.out.1, rfl, OW.out.touch Z8.out.2 (fun g hg e => NZ.out (e ▸ hg)), (fun g hg e => NZ.out (e ▸ hg)), H7.out.trans (Z8.out.2.below H7.out.size (fun k hk e => by have := HZB.out; omega))⟩
    case rest =>
      obtain ⟨q, OL, rfl, hq, hbx, hOR, how, hnq, hbel⟩ := hcut
      have OI := Lib.hid (how.inn hbx)
      have OW := Lib.hid how
      have HX := Lib.hid hbx
      have BC := Lib.hid (B3.out.trans (hbel.mono (by have := S3.out; omega)))
      have RC := Lib.hid (R3.out.below hbel (by have := S3.out; omega))
      have hsc := hbel.size
      have c0 := OI.out.c0
      have c1 := OI.out.c1
      have c2 := OI.out.c2
      have c3 := OI.out.c3
      have c4 := OI.out.c4
      have c5 := OI.out.c5
      have c6 := OI.out.c6
      have c7 := OI.out.c7
      have SOU := Lib.hid RT.out.2
      have HQ := Lib.hid hq
      have HSC := Lib.hid hsc
      clear hc0 hc1 hx1 hx2 hx3 hx4 hx5 hx6 hbx how hnq hbel hq hsc hOR
      go_wp2
      go_region_law (first
        | (go_simp
           refine (right_any q w1.heap.size OL ps b wc.drew (OI.out.below (Below.refl _ _).drew) SOU.out).mono ?_
           rintro e w6 ⟨⟨r, rfl, hr⟩, b6⟩
           have b6 : Below wc.heap.size wc w6 := (Below.refl _ _).drew.trans b6
           have O6 := OI.out.below b6
           have c0 := O6.c0
           have c1 := O6.c1
           have c2 := O6.c2
           have c3 := O6.c3
           have c4 := O6.c4
           have c5 := O6.c5
           have c6 := O6.c6
           have c7 := O6.c7
           have R6 := Lib.hid (RC.out.below b6 (by have := HSC.out; have := S3.out; omega))
           have r0 := R6.out.cell 0
           have r1 := R6.out.cell 1
           have r2 := R6.out.cell 2
           have r3 := R6.out.cell 3
           have r4 := R6.out.cell 4
           have r5 := R6.out.cell 5
           have r6 := R6.out.cell 6
           have r7 := R6.out.cell 7
           have rf := R6.out.free
           simp at r0 r1 r2 r3 r4 r5 r6 r7
           have GR := Lib.hid hr
           have B6 := Lib.hid b6
           clear b6 O6 hr))
      all_goals
        have Z8 := Lib.hid (set8 R6.out (.slice OL.R.Ak ps.length OL.R.ck) (.slice OL.R.Av ps.length OL.R.cv) (.int .i64 b.head) (.slice OL.Ap OL.np OL.cp) (.int .i64 b.phase) (.slice OL.Ag OL.ng OL.cg) (.slice OL.Ab OL.nb OL.cb) (.int .i64 b.cursor))
        clear c0 c1 c2 c3 c4 c5 c6 c7 r0 r1 r2 r3 r4 r5 r6 r7 rf
        go_wp2
        refine bodyPost_ret (v := .tuple #[.agg (OL.cells ps.length b), .bool r]) (results_box2 Tryz.results42 _ _ (w.heap.size + 1) _ _ _ _ rfl rfl Z8.out.1 Tryz.underlying66 rfl (by kernel_rfl)) rfl ?_
        have h1 := S3.out
        have h2 := HSC.out
        have h3 := B6.out.size
        have h4 := B1.out.size
        have BF : Below w.heap.size w _ := B1.out.trans (((BC.out.mono (by omega)).trans (B6.out.mono (by omega))).trans (Z8.out.2.below (show w.heap.size ≤ _ by omega) (fun k hk e => by omega)))
        have OF := (OW.out.below B6.out).touch Z8.out.2 (fun g hg e => by have := (OW.out.blk_lt hg).1; omega)
        refine ⟨OL, ps.length, b, r, rfl, BF, ?_⟩
        obtain ⟨⟨r', hr1, hr2⟩⟩ : Nonempty (∃ r', (Ending.returned (.bool r) : Ending) = .returned (.bool r') ∧ (r' = true ↔ BaseGood b)) := ⟨⟨r, rfl, GR.out⟩⟩
        cases hr1
        cases r with
        | true => exact .inl ⟨rfl, hr2.1 rfl, rfl, ps, w1.heap.size, rfl, h4, by have := Z8.out.2.size; omega, OF⟩
        | false => exact .inr ⟨rfl, fun h => absurd (hr2.2 h) (by simp)⟩
  · have NO := Lib.hid (fun h : BaseGood b => hno h.1.cells)
    have R2 := Lib.hid (R1.out.below B2.out (by omega))
    clear hno hR0 hp0
    unfold SR.kv SR.vv
    obtain ⟨w3, hw3⟩ : ∃ w3, w2.alloc (.cells #[.slice R.Ak ps.length R.ck, .slice R.Av ps.length R.cv] 62) = w3 := ⟨_, rfl⟩
    have b3 : Below w2.heap.size w2 w3 := hw3 ▸ (Below.refl _ _).alloc (Nat.le_refl _) _
    have s3 := b3.size
    have R3 := Lib.hid (R2.out.below b3 (by omega))
    have B3 := Lib.hid (B2.out.trans (b3.mono s2))
    have r0 := R3.out.cell 0
    have r1 := R3.out.cell 1
    have r2 := R3.out.cell 2
    have r3 := R3.out.cell 3
    have r4 := R3.out.cell 4
    have r5 := R3.out.cell 5
    have r6 := R3.out.cell 6
    have r7 := R3.out.cell 7
    have rf := R3.out.free
    simp at r0 r1 r2 r3 r4 r5 r6 r7
    have Z8 := Lib.hid (set8 R3.out (.slice none 0 0) (.slice none 0 0) (.int .i64 0) (.slice none 0 0) (.int .i64 0) (.slice none 0 0) (.slice none 0 0) (.int .i64 0))
    have HS := Lib.hid (show w.heap.size + 2 ≤ w3.heap.size by omega)
    clear b3 s3
    go_wp2
    clear hw3
    trace_state
    refine bodyPost_ret (v := .tuple #[.agg #[.slice none 0 0, .slice none 0 0, .int .i64 0, .slice none 0 0, .int .i64 0, .slice none 0 0, .slice none 0 0, .int .i64 0], .bool false]) (results_box2 Tryz.results42 _ _ (w.heap.size + 1) _ _ _ _ rfl rfl Z8.out.1 Tryz.underlying66 rfl (by kernel_rfl)) rfl ?_
    have h4 := B1.out.size
    have h5 := HS.out
    exact ⟨⟨SR0, none, 0, 0, none, 0, 0, none, 0, 0⟩, 0, ⟨[], 0, [], 0, [], [], 0⟩, false, rfl, B1.out.trans ((B3.out.mono (by omega)).trans (Z8.out.2.below (by omega) (fun k hk e => by omega))), .inr ⟨rfl, NO.out⟩⟩
end Go.Proofs.YtigdcmfmaehjfaaGreat

-- BaseQ: The program's BaseOk and KeptBy: for all bases.
namespace Go.Proofs.YtigdcmfmaehjfaaGreat
set_option maxRecDepth 100000
set_option linter.unusedVariables false
set_option linter.unusedSimpArgs false
open Go.RowKit

set_option maxHeartbeats 1600000 in
theorem implBaseOk_any (L : BLay) (b : MBase) (B : Nat) (w : World) (fit : BaseFit L b) (hB : B ≤ w.heap.size) (hb : BaseIn w B L b) :
    Calls Tryz.prog 10 #[L.v b] w fun e w' => ∃ r, e = .returned (.bool r) ∧ (r = true ↔ BaseGood b) ∧ Below w.heap.size w w' := by
  have FIT := Lib.hid fit
  obtain ⟨w1, hw1⟩ : ∃ w1, w.alloc (.cells #[.slice L.A L.n L.c, .int .i64 b.head, .slice L.Ap L.np L.cp, .int .i64 b.phase, .slice L.Ag L.ng L.cg, .slice L.Ab L.nb L.cb, .int .i64 b.cursor] 30) = w1 := ⟨_, rfl⟩
  have x1 : Box w1 w.heap.size 30 #[.slice L.A L.n L.c, .int .i64 b.head, .slice L.Ap L.np L.cp, .int .i64 b.phase, .slice L.Ag L.ng L.cg, .slice L.Ab L.nb L.cb, .int .i64 b.cursor] := hw1 ▸ heap_alloc_new _ _
  have b1 : Below w.heap.size w w1 := hw1 ▸ (Below.refl _ _).alloc (Nat.le_refl _) _
  have s1 := b1.size
  have q0 := x1.cell 0
  have q1 := x1.cell 1
  have q2 := x1.cell 2
  have q3 := x1.cell 3
  have q4 := x1.cell 4
  have q5 := x1.cell 5
  have q6 := x1.cell 6
  simp at q0 q1 q2 q3 q4 q5 q6
  have B1 := Lib.hid b1
  have HB := Lib.hid ((hb.more hB).below b1)
  clear x1 b1 hb fit
  unfold BLay.v
  go_enter Tryz.func10, Tryz.ntmps10
  go_wp2_with fail
  refine (opened_any L b w.heap.size w1 FIT.out s1 HB.out).mono ?_
  rintro e w2 ⟨OL, k, b0, r, rfl, b2, hor⟩
  have HG : Hid (SaysB (.returned (.bool r)) (BaseGood b)) := Lib.hid (by rcases hor with ⟨rfl, h, _⟩ | ⟨rfl, h⟩; exact SaysB.t h; exact SaysB.f h)
  have B2 := Lib.hid (B1.out.trans (b2.mono s1))
  have s2 := b2.size
  clear hor b2 q0 q1 q2 q3 q4 q5 q6 hw1
  unfold OLay.cells
  obtain ⟨w3, hw3⟩ : ∃ w3, w2.alloc (.cells #[.slice OL.R.Ak k OL.R.ck, .slice OL.R.Av k OL.R.cv, .int .i64 b0.head, .slice OL.Ap OL.np OL.cp, .int .i64 b0.phase, .slice OL.Ag OL.ng OL.cg, .slice OL.Ab OL.nb OL.cb, .int .i64 b0.cursor] 66) = w3 := ⟨_, rfl⟩
  have B3 := Lib.hid (B2.out.trans ((show Below w2.heap.size w2 w3 from hw3 ▸ (Below.refl _ _).alloc (Nat.le_refl _) _).mono (by omega)))
  go_wp2
  clear hw3
  go_ret
  obtain ⟨r', hr, hg⟩ := HG.out
  cases hr
  exact ⟨r, rfl, hg, B3.out⟩
set_option maxHeartbeats 1600000 in
theorem implKeptBy_any (L : BLay) (b : MBase) (B : Nat) (w : World) (fit : BaseFit L b) (hB : B ≤ w.heap.size) (hb : BaseIn w B L b) :
    Calls Tryz.prog 13 #[L.v b] w (GaveKept w b) := by
  have FIT := Lib.hid fit
  obtain ⟨w1, hw1⟩ : ∃ w1, w.alloc (.cells #[.slice L.A L.n L.c, .int .i64 b.head, .slice L.Ap L.np L.cp, .int .i64 b.phase, .slice L.Ag L.ng L.cg, .slice L.Ab L.nb L.cb, .int .i64 b.cursor] 30) = w1 := ⟨_, rfl⟩
  have x1 : Box w1 w.heap.size 30 #[.slice L.A L.n L.c, .int .i64 b.head, .slice L.Ap L.np L.cp, .int .i64 b.phase, .slice L.Ag L.ng L.cg, .slice L.Ab L.nb L.cb, .int .i64 b.cursor] := hw1 ▸ heap_alloc_new _ _
  have b1 : Below w.heap.size w w1 := hw1 ▸ (Below.refl _ _).alloc (Nat.le_refl _) _
  have s1 := b1.size
  have q0 := x1.cell 0
  have q1 := x1.cell 1
  have q2 := x1.cell 2
  have q3 := x1.cell 3
  have q4 := x1.cell 4
  have q5 := x1.cell 5
  have q6 := x1.cell 6
  simp at q0 q1 q2 q3 q4 q5 q6
  have B1 := Lib.hid b1
  have HB := Lib.hid ((hb.more hB).below b1)
  clear x1 b1 hb fit
  unfold BLay.v
  go_enter Tryz.func13, Tryz.ntmps13
  go_wp2_with fail
  refine (opened_any L b w.heap.size w1 FIT.out s1 HB.out).mono ?_
  rintro e w2 ⟨OL, k, b0, r, rfl, b2, hor⟩
  have OR := Lib.hid hor
  have B2 := Lib.hid (B1.out.trans (b2.mono s1))
  have s2 := b2.size
  clear hor b2 q0 q1 q2 q3 q4 q5 q6 hw1
  unfold OLay.cells
  obtain ⟨w3, hw3⟩ : ∃ w3, w2.alloc (.cells #[.slice OL.R.Ak k OL.R.ck, .slice OL.R.Av k OL.R.cv, .int .i64 b0.head, .slice OL.Ap OL.np OL.cp, .int .i64 b0.phase, .slice OL.Ag OL.ng OL.cg, .slice OL.Ab OL.nb OL.cb, .int .i64 b0.cursor] 66) = w3 := ⟨_, rfl⟩
  have X3 := Lib.hid (show Box w3 w2.heap.size 66 (OL.cells k b0) from hw3 ▸ heap_alloc_new _ _)
  have b3 : Below w2.heap.size w2 w3 := hw3 ▸ (Below.refl _ _).alloc (Nat.le_refl _) _
  have B3 := Lib.hid (B2.out.trans (b3.mono (by omega)))
  have B23 := Lib.hid b3
  have s3 : w3.heap.size = w2.heap.size + 1 := hw3 ▸ by simp
  clear b3
  cases r with
  | false =>
    go_wp2
    clear hw3
    go_ret
    exact ⟨none, 0, 0, [], rfl, .inr ⟨(OR.out.elim (fun h => by simp at h) (fun h => h.2)), rfl⟩, OwnI.nil _ _, B3.out⟩
  | true =>
    obtain ⟨_, hg, hb0, ps, lo, hk, _, _, how⟩ : true = true ∧ BaseGood b ∧ b0 = b ∧ ∃ ps lo, k = ps.length ∧ w1.heap.size ≤ lo ∧ lo ≤ w2.heap.size ∧ OwnO w2 lo OL ps b := OR.out.elim id (fun h => by simp at h)
    subst hb0
    subst hk
    have GD := Lib.hid hg
    have O3 := Lib.hid ((how.below B23.out).inn X3.out)
    have h6 : OL.np ≤ 6 := by have := hg.1.few; have := how.pins.len; omega
    clear how hg OR
    go_wp2_with fail
    clear hw3
    refine (kept_any w2.heap.size lo OL ps b0 w3 O3.out GD.out.1.rise h6).mono ?_
    rintro e w4 ⟨A4, n4, c4, rfl, o4, _, b4⟩
    have O4 := Lib.hid (o4.base (show w.heap.size ≤ w3.heap.size by omega))
    have B4 := Lib.hid (B3.out.trans (b4.mono (by omega)))
    clear o4 b4
    go_wp2
    go_ret
    exact ⟨_, _, _, _, rfl, .inl ⟨GD.out, rfl⟩, O4.out, B4.out⟩
end Go.Proofs.YtigdcmfmaehjfaaGreat

-- Chg: A change: what it is, when it is one; one that came in; what the laws' helpers and the model's ChangeOk do with it.
namespace Go.Proofs.YtigdcmfmaehjfaaGreat
set_option maxRecDepth 20000
set_option linter.unusedVariables false
set_option linter.unusedSimpArgs false
open Go.RowKit Go.ChangeShapes Go.WideShapes Go.Joins Go.Deep

/-- a change. -/
structure MChg where
  kind : Int
  name : Int
  bytes : List Int
/-- the change is right. -/
def ChgOk (x : MChg) : Prop := (¬ x.kind = 1 ∧ 2 ≤ x.kind ∧ x.kind ≤ 11 ∧ 0 ≤ x.name ∧ x.bytes = []) ∨ (x.kind = 1 ∧ (∃ nd, NodeRead x.bytes nd true) ∧ x.name = nameOf x.bytes)
/-- the value of a change whose bytes lie so. -/
def chgV (x : MChg) (A : Option Addr) (n c : Nat) : Value := .agg #[.int .i64 x.kind, .int .i64 x.name, .slice A n c]
/-- the value v is a change x that came in. -/
def ChgArg (w : World) (v : Value) (x : MChg) : Prop :=
  ∃ A n c, v = .agg #[.int .i64 x.kind, .int .i64 x.name, .slice A n c] ∧ n ≤ maxLen ∧ n ≤ c ∧ (A = none → c = 0) ∧ Byts w w.heap.size A n x.bytes
theorem open_chg {H : Type} {enc : TypeId × Value → H} {w : World} {r : Reach} {b0 : Nat} {v : Value} {d : DataW H} {p : List MemPlace} (hv : Value.okWide Tryz.prog w r b0 74 v)
    (h : DataW.Trod enc Tryz.prog w 0 (fun _ => true) true 74 v d p) : ∃ x, ChgArg w v x := by
  obtain ⟨v0, v1, v2, y0, y1, y2, n, rfl, _, _, h0, h1, h2⟩ := open_agg3 Tryz.underlying74 (by kernel_rfl) (by kernel_rfl) hv h
  obtain ⟨z, e0, _⟩ := DataW.trod_int Tryz.underlying2 h0
  obtain ⟨m, e1, _⟩ := DataW.trod_int Tryz.underlying2 h1
  obtain ⟨A, n', c, zs, rfl, hr⟩ := row_of_trod Tryz.underlying47 Tryz.underlying5 (by kernel_rfl) h2
  simp at e0 e1
  subst e0 e1
  refine ⟨⟨z, m, zs.take n'⟩, A, n', c, rfl, ?_, ?_, ?_, hr.byts⟩
  · rcases hr with ⟨_, h, _⟩ | ⟨_, _, hl, hm, _⟩
    · rw [h]; unfold maxLen; omega
    · omega
  · rcases hr with ⟨_, rfl, rfl, _⟩ | ⟨_, _, h2, h3, _⟩
    · exact Nat.le_refl _
    · exact h2
  · rcases hr with ⟨_, _, rfl, _⟩ | ⟨_, e, h2, h3, _⟩
    · exact fun _ => rfl
    · intro e'; rw [e] at e'; cases e'

theorem szChange_any (x : MChg) (A : Option Addr) (n c left : Nat) (w : World) (hn : n ≤ maxLen) (hl : left ≤ 1048576) :
    Calls Tryz.prog 46 #[.agg #[.int .i64 x.kind, .int .i64 x.name, .slice A n c], .int .i64 left] w fun e w' => e = .returned (.int .i64 (if n ≤ left then ((left - n : Nat) : Int) else -1)) ∧ Below w.heap.size w w' := by
  unfold maxLen at hn
  have b0 := Lib.hid ((Below.refl w.heap.size w).alloc (Nat.le_refl _) (.cells #[.int .i64 x.kind, .int .i64 x.name, .slice A n c] 74))
  have szb : ∀ W : World, Calls Tryz.prog 76 #[.slice A n c, .int .i64 left] W fun e w' => e = .returned (.int .i64 (if n ≤ left then ((left - n : Nat) : Int) else -1)) ∧ W = w' := by
    intro W
    by_cases h : n ≤ left
    · rw [if_pos h]
      go_enter Tryz.func76, Tryz.ntmps76
      go_wp2
      go_ret
      exact ⟨ret_i64 (by omega), rfl⟩
    · rw [if_neg h]
      go_enter Tryz.func76, Tryz.ntmps76
      go_wp2
      go_ret
      exact ⟨rfl, rfl⟩
  have SZ := Lib.hid szb
  clear szb
  go_enter Tryz.func46, Tryz.ntmps46
  go_wp2_with fail
  refine (SZ.out _).mono ?_
  rintro e w' ⟨rfl, rfl⟩
  by_cases h : n ≤ left
  · rw [if_pos h]
    go_wp2
    go_ret
    exact ⟨rfl, b0.out⟩
  · rw [if_neg h]
    go_wp2
    go_ret
    exact ⟨rfl, b0.out⟩

theorem l1In_chg (x : Int) (w : World) :
    Calls Tryz.prog 117 #[.int .i64 x, .int .i64 2, .int .i64 11] w fun e w' => e = .returned (.bool (decide (2 ≤ x ∧ x ≤ 11))) ∧ w' = w := by
  go_enter Tryz.func117, Tryz.ntmps117
  by_cases h : 2 ≤ x
  · go_wp2
    go_ret
    exact ⟨ret_b (decide_eq_decide.2 (by omega)), rfl⟩
  · go_wp2
    go_ret
    exact ⟨ret_b (by simp; omega), rfl⟩

theorem specChangeOk_any (x : MChg) (A : Option Addr) (n c : Nat) (B : Nat) (w : World) (hn : n ≤ 1048576) (hc : n ≤ c) (hB : B ≤ w.heap.size) (hb : Byts w B A n x.bytes) :
    Calls Tryz.prog 78 #[.agg #[.int .i64 x.kind, .int .i64 x.name, .slice A n c]] w fun e w' => ∃ r, e = .returned (.bool r) ∧ (r = true ↔ ChgOk x) ∧ Below w.heap.size w w' := by
  have hlen := hb.1
  obtain ⟨w1, hw1⟩ : ∃ w1, w.alloc (.cells #[.int .i64 x.kind, .int .i64 x.name, .slice A n c] 75) = w1 := ⟨_, rfl⟩
  have x1 : Box w1 w.heap.size _ _ := hw1 ▸ heap_alloc_new _ _
  have b1 : Below w.heap.size w w1 := hw1 ▸ (Below.refl _ _).alloc (Nat.le_refl _) _
  have X1 := Lib.hid x1
  have B1 := Lib.hid b1
  have HB := Lib.hid ((hb.more hB).below b1)
  have HW := Lib.hid hw1
  have q0 := x1.cell 0
  have q1 := x1.cell 1
  have q2 := x1.cell 2
  simp at q0 q1 q2
  have s1 : w.heap.size ≤ w1.heap.size := b1.size
  clear x1 b1 hb
  by_cases hk : x.kind = 1
  · have hb1 : (x.kind != 1) = false := by simp [hk]
    have HK := Lib.hid hk
    clear hk
    go_enter Tryz.func78, Tryz.ntmps78
    go_wp2_with fail
    refine (specNodeFrom_any A n c x.bytes _ w1 hn hc s1 HB.out).mono ?_
    rintro e w2 ⟨v, nd, b, rfl, own, rd, b2⟩
    obtain ⟨Ap, np, cp, Ak, nk, ck, rfl, _⟩ := own
    obtain ⟨w3, hw3⟩ : ∃ w3, w2.alloc (.cells #[.int .i64 nd.kind, .slice Ap np cp, .slice Ak nk ck, .string nd.val] 96) = w3 := ⟨_, rfl⟩
    have b2 : Below w1.heap.size w1 w3 := b2.trans (hw3 ▸ (Below.refl w2.heap.size w2).alloc (Nat.le_refl _) _ |>.mono b2.size)
    have B2 := Lib.hid (B1.out.trans (b2.mono s1))
    have X2 := X1.out.below b2 X1.out.lt
    have HB2 := Lib.hid (HB.out.below (b2.mono s1))
    have RD := Lib.hid rd
    have nm := fun k => (specName_any A n c x.bytes w.heap.size (w3.drewN k) (by omega) (HB2.out.drewN k)).mono (fun e w' (h : _ ∧ _) => And.intro h.1 h.2.symm)
    have NM := Lib.hid nm
    clear q0 q1 q2 b2 rd nm
    have q0 := X2.cell 0
    have q1 := X2.cell 1
    have q2 := X2.cell 2
    simp at q0 q1 q2
    clear X2
    cases b with
    | false =>
      have hno : ¬ ChgOk x := fun h => by
        rcases h with ⟨h, _⟩ | ⟨_, ⟨nd', h⟩, _⟩
        · exact h HK.out
        · have := (RD.out.one h).2; cases this
      have HN := Lib.hid hno
      clear hno
      go_wp2
      go_quiet (first | (go_at_call 64; exact Calls.quiet_of_same (NM.out _)))
      go_wp2
      go_ret
      exact ⟨false, rfl, iff_of_false (by simp) HN.out, below_drewN B2.out _⟩
    | true =>
      by_cases he : x.name = nameOf x.bytes
      · have hb2 : (x.name == nameOf x.bytes) = true := by simpa using he
        have hyes : ChgOk x := .inr ⟨HK.out, ⟨nd, RD.out⟩, he⟩
        have HY := Lib.hid hyes
        clear hyes he
        go_wp2
        go_quiet (first | (go_at_call 64; exact Calls.quiet_of_same (NM.out _)))
        go_wp2
        go_ret
        exact ⟨true, rfl, iff_of_true rfl HY.out, below_drewN B2.out _⟩
      · have hb2 : (x.name == nameOf x.bytes) = false := by simpa using he
        have hno : ¬ ChgOk x := fun h => by
          rcases h with ⟨h, _⟩ | ⟨_, _, h⟩
          · exact h HK.out
          · exact he h
        have HN := Lib.hid hno
        clear hno he
        go_wp2
        go_quiet (first | (go_at_call 64; exact Calls.quiet_of_same (NM.out _)))
        go_wp2
        go_ret
        exact ⟨false, rfl, iff_of_false (by simp) HN.out, below_drewN B2.out _⟩
  · have hb1 : (x.kind != 1) = true := by simpa using hk
    have LI := Lib.hid fun W => l1In_chg x.kind W
    have hiff : ChgOk x ↔ ((2 ≤ x.kind ∧ x.kind ≤ 11) ∧ 0 ≤ x.name ∧ n = 0) := by
      constructor
      · rintro (⟨_, h1, h2, h3, h4⟩ | ⟨h, _⟩)
        · exact ⟨⟨h1, h2⟩, h3, by rw [← hlen, h4]; rfl⟩
        · exact absurd h hk
      · rintro ⟨⟨h1, h2⟩, h3, h4⟩
        exact .inl ⟨hk, h1, h2, h3, List.eq_nil_of_length_eq_zero (by omega)⟩
    have HF := Lib.hid hiff
    clear hiff hk
    have ff : ∀ W, Below w.heap.size w W → ¬ ((2 ≤ x.kind ∧ x.kind ≤ 11) ∧ 0 ≤ x.name ∧ n = 0) → ∃ r, (Ending.returned (.bool false) : Ending) = .returned (.bool r) ∧ (r = true ↔ ChgOk x) ∧ Below w.heap.size w W := fun W hW h => ⟨false, rfl, iff_of_false (by simp) (fun h' => h (HF.out.1 h')), hW⟩
    have FF := Lib.hid ff
    clear ff
    by_cases h1 : 2 ≤ x.kind ∧ x.kind ≤ 11
    case neg =>
      rw [decide_eq_false h1] at LI
      have H1 := Lib.hid h1
      clear h1
      go_enter Tryz.func78, Tryz.ntmps78
      go_wp2_with fail
      refine (LI.out _).mono ?_
      rintro e w' ⟨rfl, hw'⟩
      rw [hw']
      clear hw' w'
      go_wp2
      go_ret
      exact FF.out _ B1.out (fun h => H1.out h.1)
    case pos =>
      rw [decide_eq_true h1] at LI
      have H1 := Lib.hid h1
      clear h1
      by_cases h2 : 0 ≤ x.name
      case neg =>
        have hd0 : decide (0 ≤ x.name) = false := decide_eq_false h2
        have H2 := Lib.hid h2
        clear h2
        go_enter Tryz.func78, Tryz.ntmps78
        go_wp2_with fail
        refine (LI.out _).mono ?_
        rintro e w' ⟨rfl, hw'⟩
        rw [hw']
        clear hw' w'
        go_wp2
        go_ret
        exact FF.out _ B1.out (fun h => by have := H2.out; have := h.2.1; omega)
      case pos =>
        have hd0 : decide (0 ≤ x.name) = true := decide_eq_true h2
        have H2 := Lib.hid h2
        clear h2
        by_cases hz : n = 0
        · obtain rfl := hz
          have hyes := Lib.hid (HF.out.2 ⟨H1.out, H2.out, rfl⟩)
          go_enter Tryz.func78, Tryz.ntmps78
          go_wp2_with fail
          refine (LI.out _).mono ?_
          rintro e w' ⟨rfl, hw'⟩
          rw [hw']
          clear hw' w'
          go_wp2
          go_ret
          exact ⟨true, rfl, iff_of_true rfl hyes.out, B1.out⟩
        · have hd : decide ((n : Int) = 0) = false := decide_eq_false (by omega)
          have hd' : ((n : Int) == 0) = false := by simpa using hz
          have HZ := Lib.hid hz
          go_enter Tryz.func78, Tryz.ntmps78
          go_wp2_with fail
          refine (LI.out _).mono ?_
          rintro e w' ⟨rfl, hw'⟩
          rw [hw']
          clear hw' w'
          go_wp2
          go_ret
          first | exact FF.out _ B1.out (fun h => HZ.out h.2.2) | (refine ⟨_, rfl, ?_, B1.out⟩; simp [hz]; exact fun h => HZ.out (HF.out.1 h).2.2)
theorem toChange_any (x : MChg) (A : Option Addr) (n c : Nat) (B : Nat) (w : World) (hn : n ≤ 1048576) (hB : B ≤ w.heap.size) (hb : Byts w B A n x.bytes) :
    Calls Tryz.prog 48 #[.agg #[.int .i64 x.kind, .int .i64 x.name, .slice A n c]] w fun e w' => ∃ A' n' c', e = .returned (.agg #[.int .i64 x.kind, .int .i64 x.name, .slice A' n' c']) ∧ Mine w' w.heap.size A' n' c' x.bytes ∧ Below w.heap.size w w' := by
  obtain ⟨k, m, bs⟩ := x
  have hn' : n ≤ 140737488355328 := by omega
  have HP := Lib.hid (hb.more hB)
  have hlen := hb.1
  clear hb
  obtain ⟨w3, hw3⟩ : ∃ w3, (((w.alloc (.cells #[.int .i64 k, .int .i64 m, .slice A n c] 74)).alloc (.cells #[.int .i64 0, .int .i64 0, .slice none 0 0] 75)).alloc
    (.cells #[.int .i64 k, .int .i64 m, .slice none 0 0] 75)) = w3 := ⟨_, rfl⟩
  have x0 : Box w3 w.heap.size _ _ := hw3 ▸ heap3_0 _ _ _ _
  have x1 : Box w3 (w.heap.size + 1) _ _ := hw3 ▸ heap3_1 _ _ _ _
  have x2 : Box w3 (w.heap.size + 1 + 1) _ _ := hw3 ▸ heap3_2 _ _ _ _
  have s3 : w3.heap.size = w.heap.size + 3 := hw3 ▸ size3 _ _ _ _
  have b3 : Below w.heap.size w w3 := hw3 ▸ below3 _ _ _ _
  have X0 := Lib.hid x0
  have X1 := Lib.hid x1
  have X2 := Lib.hid x2
  have B3 := Lib.hid b3
  have HW := Lib.hid hw3
  clear x0 x1 x2 b3 hw3
  go_enter Tryz.func48, Tryz.ntmps48
  go_wp2_with fail
  rw [HW.out]
  refine (copy_own _ _ _ bs _ w3 hn' (by omega) (HP.out.below B3.out)).mono ?_
  rintro e w4 ⟨g4, rfl, hg4, r4, b4⟩
  have s4 := b4.size
  have l4 := r4.lt
  have R4 := Lib.hid r4
  have X1 := Lib.hid (X1.out.below b4 (by omega))
  have X2 := Lib.hid (X2.out.below b4 (by omega))
  have B4 := Lib.hid (B3.out.trans (b4.mono (by omega)))
  clear r4 b4
  have q10 := X1.out.cell 0
  have q11 := X1.out.cell 1
  have q12 := X1.out.cell 2
  have q20 := X2.out.cell 0
  have q21 := X2.out.cell 1
  have q22 := X2.out.cell 2
  have f1 := X1.out.free
  have f2 := X2.out.free
  simp at q10 q11 q12 q20 q21 q22
  go_wp2
  have hX := (((X1.out.other (g' := w.heap.size + 1 + 1) (by omega) 2 (.slice (some ⟨g4, 0, none⟩) n n)).set_ 0 (.int .i64 k)).set_ 1 (.int .i64 m)).set_ 2 (.slice (some ⟨g4, 0, none⟩) n n)
  have hS : Touch (fun k => w.heap.size ≤ k ∧ k < w.heap.size + 3) w4 _ :=
    (((touch_set w4 (w.heap.size + 1 + 1) 2 (.slice (some ⟨g4, 0, none⟩) n n) ⟨by omega, by omega⟩).trans (touch_set _ (w.heap.size + 1) 0 (.int .i64 k) ⟨by omega, by omega⟩)).trans (touch_set _ (w.heap.size + 1) 1 (.int .i64 m) ⟨by omega, by omega⟩)).trans (touch_set _ (w.heap.size + 1) 2 (.slice (some ⟨g4, 0, none⟩) n n) ⟨by omega, by omega⟩)
  refine bodyPost_ret (v := .agg #[.int .i64 k, .int .i64 m, .slice (some ⟨g4, 0, none⟩) n n]) (results_cell_row Tryz.results48 _ _ (w.heap.size + 1) _ _ _ _ rfl hX Tryz.underlying75 rfl (by kernel_rfl)) rfl ?_
  have hle := B4.out.size
  exact ⟨_, _, _, rfl, ((row_mine R4.out hlen hg4 (by unfold maxLen; omega)).touch hS (fun g hg h => by simp [Value.ownBlock] at hg; omega)).base (by omega), B4.out.trans (hS.below hle (fun k hk h => by omega))⟩
theorem eqChange_yes (x : MChg) (A A' : Option Addr) (n c c' : Nat) (B B' : Nat) (w : World) (hn : n ≤ 1048576) (hB : B ≤ w.heap.size) (hB' : B' ≤ w.heap.size) (hb : Byts w B A n x.bytes) (hb' : Byts w B' A' n x.bytes) :
    Calls Tryz.prog 51 #[.agg #[.int .i64 x.kind, .int .i64 x.name, .slice A n c], .agg #[.int .i64 x.kind, .int .i64 x.name, .slice A' n c']] w fun e w' => e = .returned (.bool true) ∧ Below w.heap.size w w' := by
  obtain ⟨k, m, bs⟩ := x
  have HP := Lib.hid (hb.more hB)
  have HP' := Lib.hid (hb'.more hB')
  clear hb hb'
  obtain ⟨w3, hw3⟩ : ∃ w3, ((w.alloc (.cells #[.int .i64 k, .int .i64 m, .slice A n c] 75)).alloc (.cells #[.int .i64 k, .int .i64 m, .slice A' n c'] 75)) = w3 := ⟨_, rfl⟩
  have s3 : w3.heap.size = w.heap.size + 2 := hw3 ▸ size2 _ _ _
  have b3 : Below w.heap.size w w3 := hw3 ▸ below2 _ _ _
  have B3 := Lib.hid b3
  have HW := Lib.hid hw3
  clear b3 hw3
  go_enter Tryz.func51, Tryz.ntmps51
  go_wp2_with fail
  rw [HW.out]
  refine (like_yes _ _ _ _ _ bs _ _ w3 (by omega) (HP.out.below B3.out) (HP'.out.below B3.out)).mono ?_
  rintro e w4 ⟨rfl, q, hq⟩
  have b4 : Below w3.heap.size w3 w4 := by rw [hq]; exact below_drewN (Below.refl _ _) q
  clear hq
  have B4 := Lib.hid (B3.out.trans (b4.mono (by omega)))
  clear b4
  go_wp2
  go_ret
  exact ⟨rfl, B4.out⟩
end Go.Proofs.YtigdcmfmaehjfaaGreat

-- Chs: Slices of changes: one that reads as a list; one that the call made and may write into; no statement of the program is proved here.
namespace Go.Proofs.YtigdcmfmaehjfaaGreat
set_option maxRecDepth 20000
set_option linter.unusedVariables false
set_option linter.unusedSimpArgs false
open Go.RowKit

/-- no change. -/
def chg0 : MChg := ⟨0, 0, []⟩
/-- the i-th change of a list. -/
def cx (cs : List MChg) (i : Nat) : MChg := cs[i]?.getD chg0
theorem cx_set (cs : List MChg) (k : Nat) (x : MChg) (i : Nat) (hk : k < cs.length) : cx (cs.set k x) i = if i = k then x else cx cs i := by
  unfold cx
  by_cases h : i = k
  · subst h
    rw [if_pos rfl, List.getElem?_set_self hk]; rfl
  · rw [if_neg h, List.getElem?_set_ne (by omega)]
theorem cx_append (cs : List MChg) (x : MChg) (i : Nat) : cx (cs ++ [x]) i = if i = cs.length then x else cx cs i := by
  unfold cx
  by_cases h : i = cs.length
  · subst h
    simp
  · rw [if_neg h]
    rcases Nat.lt_or_ge i cs.length with h1 | h1
    · rw [List.getElem?_append_left h1]
    · rw [List.getElem?_eq_none (by simp; omega), List.getElem?_eq_none (by omega)]
theorem cx_take (cs : List MChg) (k : Nat) (h : k < cs.length) : cs.take (k + 1) = cs.take k ++ [cx cs k] := by
  unfold cx
  rw [List.take_succ_eq_append_getElem h, List.getElem?_eq_getElem h]; rfl

/-- the slice value '.slice A n c' of changes reads as cs, below block B. -/
def Chs (w : World) (B : Nat) (A : Option Addr) (n : Nat) (cs : List MChg) : Prop :=
  cs.length = n ∧ (0 < n → ∃ b off, A = some ⟨b, off, none⟩ ∧ b < B ∧ ∀ i, i < n → w.cell? ⟨b, off + i * 3, none⟩ = some (.int .i64 (cx cs i).kind) ∧ w.cell? ⟨b, off + i * 3 + 1, none⟩ = some (.int .i64 (cx cs i).name) ∧
    ∃ Ai ni ci, w.cell? ⟨b, off + i * 3 + 2, none⟩ = some (.slice Ai ni ci) ∧ ni ≤ ci ∧ (Ai = none → ci = 0) ∧ Byts w B Ai ni (cx cs i).bytes)
section
variable {w w' : World} {B B' n : Nat} {A : Option Addr} {cs : List MChg}
theorem Chs.none_ : Chs w B A 0 [] := ⟨rfl, fun h => absurd h (by omega)⟩
theorem Chs.at_ {k : Nat} (h : Chs w B A n cs) (hk : k < n) : ∃ b off Ai ni ci, A = some ⟨b, off, none⟩ ∧ b < B ∧ w.cell? ⟨b, off + k * 3, none⟩ = some (.int .i64 (cx cs k).kind) ∧ w.cell? ⟨b, off + k * 3 + 1, none⟩ = some (.int .i64 (cx cs k).name) ∧ w.cell? ⟨b, off + k * 3 + 2, none⟩ = some (.slice Ai ni ci) ∧ ni ≤ ci ∧ (Ai = none → ci = 0) ∧ Byts w B Ai ni (cx cs k).bytes := by
  obtain ⟨b, off, e, hb, hc⟩ := h.2 (by omega)
  obtain ⟨h0, hm, Ai, ni, ci, h1, h2, h3, h4⟩ := hc k hk
  exact ⟨b, off, Ai, ni, ci, e, hb, h0, hm, h1, h2, h3, h4⟩
theorem Chs.keep (h : Chs w B A n cs) (hk : ∀ p : Addr, p.block < B → w'.cell? p = w.cell? p) : Chs w' B A n cs :=
  ⟨h.1, fun hn => by
    obtain ⟨b, off, e, hb, hc⟩ := h.2 hn
    refine ⟨b, off, e, hb, fun i hi => ?_⟩
    obtain ⟨h0, hm, Ai, ni, ci, h1, h2, h3, h4⟩ := hc i hi
    exact ⟨(hk _ hb).trans h0, (hk _ hb).trans hm, Ai, ni, ci, (hk _ hb).trans h1, h2, h3, h4.keep hk⟩⟩
theorem Chs.more (h : Chs w B A n cs) (hB : B ≤ B') : Chs w B' A n cs :=
  ⟨h.1, fun hn => by
    obtain ⟨b, off, e, hb, hc⟩ := h.2 hn
    refine ⟨b, off, e, by omega, fun i hi => ?_⟩
    obtain ⟨h0, hm, Ai, ni, ci, h1, h2, h3, h4⟩ := hc i hi
    exact ⟨h0, hm, Ai, ni, ci, h1, h2, h3, h4.more hB⟩⟩
theorem Chs.below (h : Chs w B A n cs) (hb : Below B w w') : Chs w' B A n cs := h.keep fun _ hp => hb.cell hp
theorem Chs.drewN (h : Chs w B A n cs) (k : Nat) : Chs (w.drewN k) B A n cs := h.below (below_drewN (Below.refl _ _) k)
theorem Chs.alloc (h : Chs w B A n cs) (hB : B ≤ w.heap.size) (o : Obj) : Chs (w.alloc o) B A n cs := h.keep fun p hp => World.cell?_alloc_lt w o p (by omega)
end

theorem Tryz.infoCh : (Tryz.prog.info? 75).map (fun i => (i.zero, i.size, i.bytes)) = some (some (.agg #[.int .i64 0, .int .i64 0, .slice none 0 0]), 3, 40) := by kernel_rfl

/-- what stands in a row of changes. -/
def hf (cs : List MChg) (sl : Nat → Sub) (j : Nat) : Value := if j % 3 = 0 then .int .i64 (cx cs (j / 3)).kind else if j % 3 = 1 then .int .i64 (cx cs (j / 3)).name else (sl (j / 3)).v
def hvs (n : Nat) (cs : List MChg) (sl : Nat → Sub) : List Value := (List.range (n * 3)).map (hf cs sl)
theorem hvs_at (n : Nat) (cs : List MChg) (sl : Nat → Sub) (j : Nat) (h : j < n * 3) : (hvs n cs sl)[j]? = some (hf cs sl j) := by simp [hvs, h]
theorem hvs_len (n : Nat) (cs : List MChg) (sl : Nat → Sub) : (hvs n cs sl).length = n * 3 := by simp [hvs]
theorem hf0 (cs : List MChg) (sl : Nat → Sub) (k : Nat) : hf cs sl (k * 3) = .int .i64 (cx cs k).kind := by unfold hf; rw [if_pos (by omega), show k * 3 / 3 = k by omega]
theorem hf1 (cs : List MChg) (sl : Nat → Sub) (k : Nat) : hf cs sl (k * 3 + 1) = .int .i64 (cx cs k).name := by unfold hf; rw [if_neg (by omega), if_pos (by omega), show (k * 3 + 1) / 3 = k by omega]
theorem hf2 (cs : List MChg) (sl : Nat → Sub) (k : Nat) : hf cs sl (k * 3 + 2) = (sl k).v := by unfold hf; rw [if_neg (by omega), if_neg (by omega), show (k * 3 + 2) / 3 = k by omega]
theorem hvs_set (n : Nat) (cs : List MChg) (sl : Nat → Sub) (k : Nat) (a m : Int) (x : Sub) (b : List Int) (hk : k < n) (hl : cs.length = n) :
    (((hvs n cs sl).set (k * 3) (.int .i64 a)).set (k * 3 + 1) (.int .i64 m)).set (k * 3 + 2) x.v = hvs n (cs.set k ⟨a, m, b⟩) (fun i => if i = k then x else sl i) := by
  apply List.ext_getElem?
  intro j
  by_cases hj : j < n * 3
  · rw [hvs_at _ _ _ j hj]
    by_cases h2 : j = k * 3 + 2
    · subst h2
      rw [List.getElem?_set_self (by simp [hvs]; omega), hf2, if_pos rfl]
    · rw [List.getElem?_set_ne (by omega)]
      by_cases h1 : j = k * 3 + 1
      · subst h1
        rw [List.getElem?_set_self (by simp [hvs]; omega), hf1, cx_set _ _ _ _ (by omega), if_pos rfl]
      · rw [List.getElem?_set_ne (by omega)]
        by_cases h0 : j = k * 3
        · subst h0
          rw [List.getElem?_set_self (by simp [hvs]; omega), hf0, cx_set _ _ _ _ (by omega), if_pos rfl]
        · rw [List.getElem?_set_ne (by omega), hvs_at _ _ _ j hj]
          unfold hf
          rw [cx_set _ _ _ _ (by omega), if_neg (show ¬ j / 3 = k by omega)]
          simp only [show ¬ j / 3 = k by omega, if_false]
  · rw [List.getElem?_eq_none (by simp [hvs]; omega), List.getElem?_eq_none (by simp [hvs]; omega)]
theorem hvs_append (n : Nat) (cs : List MChg) (sl : Nat → Sub) (x : Sub) (a m : Int) (b : List Int) (hl : cs.length = n) :
    hvs n cs sl ++ [.int .i64 a, .int .i64 m, x.v] = hvs (n + 1) (cs ++ [⟨a, m, b⟩]) (fun i => if i = n then x else sl i) := by
  apply List.ext_getElem?
  intro j
  by_cases hj : j < n * 3
  · rw [List.getElem?_append_left (by simp [hvs]; omega), hvs_at _ _ _ j hj, hvs_at _ _ _ j (by omega)]
    unfold hf
    rw [cx_append, if_neg (show ¬ j / 3 = cs.length by omega)]
    simp only [show ¬ j / 3 = n by omega, if_false]
  · rw [List.getElem?_append_right (by simp [hvs]; omega), hvs_len]
    by_cases h0 : j = n * 3
    · subst h0
      rw [hvs_at _ _ _ _ (by omega), hf0, cx_append, if_pos hl.symm]; simp
    · by_cases h1 : j = n * 3 + 1
      · subst h1
        rw [hvs_at _ _ _ _ (by omega), hf1, cx_append, if_pos hl.symm, show n * 3 + 1 - n * 3 = 1 by omega]; rfl
      · by_cases h2 : j = n * 3 + 2
        · subst h2
          rw [hvs_at _ _ _ _ (by omega), hf2, if_pos rfl, show n * 3 + 2 - n * 3 = 2 by omega]; rfl
        · rw [List.getElem?_eq_none (by simp; omega), List.getElem?_eq_none (by simp [hvs]; omega)]

/-- the slices in a row of n changes are of the call's own, each in a block of its own, of the blocks from lo to hi, none of them g. -/
structure SubH (w : World) (lo hi : Nat) (g : Option Nat) (n : Nat) (cs : List MChg) (sl : Nat → Sub) : Prop where
  mine : ∀ i, i < n → Mine w lo (sl i).A (sl i).n (sl i).c (cx cs i).bytes
  apart : ∀ i j, i < n → j < n → i ≠ j → ∀ b, (sl i).v.ownBlock = some b → (sl j).v.ownBlock ≠ some b
  other : ∀ i, i < n → ∀ b, (sl i).v.ownBlock = some b → g ≠ some b
  under : ∀ i, i < n → ∀ b, (sl i).v.ownBlock = some b → b < hi
/-- the slice '.slice A n c' of changes is of the call's own, with all that it holds, in blocks from lo to hi, and reads as cs. -/
def OwnCh (w : World) (lo hi : Nat) (A : Option Addr) (n c : Nat) (cs : List MChg) : Prop :=
  cs.length = n ∧ (∀ b, (Value.slice A n c).ownBlock = some b → b < hi) ∧ ∃ sl, w.ownsRow lo 75 3 (.slice A n c) n (hvs n cs sl) ∧ SubH w lo hi (Value.slice A n c).ownBlock n cs sl
section
variable {w w' : World} {lo hi hi' n c g : Nat} {A : Option Addr} {cs : List MChg}
theorem OwnCh.nil (w : World) (lo hi : Nat) : OwnCh w lo hi none 0 0 [] := ⟨rfl, fun b h => by simp [Value.ownBlock] at h, fun _ => ⟨none, 0, 0, []⟩, World.ownsRow_nil _ _ _ _, fun i h => by omega, fun i j h => by omega, fun i h => by omega, fun i h => by omega⟩
theorem OwnCh.len (h : OwnCh w lo hi A n c cs) : cs.length = n := h.1
theorem OwnCh.cap (h : OwnCh w lo hi A n c cs) : n ≤ c := by
  obtain ⟨_, _, sl, hr, _⟩ := h
  rcases hr.2 with ⟨e, hx⟩ | ⟨g', cap, cur, e, _, _, hn, _⟩
  · have e2 : n = 0 := by simpa using hx
    omega
  · cases e; exact hn
theorem OwnCh.nilc (h : OwnCh w lo hi A n c cs) (hA : A = none) : c = 0 := by
  obtain ⟨_, _, sl, hr, _⟩ := h
  rcases hr.2 with ⟨e, hx⟩ | ⟨g', cap, cur, e, _, _, hn, _⟩
  · cases e; rfl
  · subst hA; cases e
theorem OwnCh.touch {S : Nat → Prop} (h : OwnCh w lo hi A n c cs) (t : Touch S w w') (hn : ∀ b, lo ≤ b → b < hi → ¬ S b) : OwnCh w' lo hi A n c cs := by
  obtain ⟨hl, hu, sl, hr, hs⟩ := h
  exact ⟨hl, hu, sl, own_touch hr t (fun b hb => hn b (hr.lt b hb).1 (hu b hb)), fun i hi => (hs.mine i hi).touch t (fun b hb => hn b ((hs.mine i hi).1.lt b hb).1 (hs.under i hi b hb)), hs.apart, hs.other, hs.under⟩
theorem OwnCh.below (h : OwnCh w lo hi A n c cs) (hb : Below hi w w') : OwnCh w' lo hi A n c cs :=
  h.touch (S := fun k => hi ≤ k) ⟨hb.os, hb.tape, hb.output, hb.size, fun k hk hs => hb.block k (by omega)⟩ (fun b _ h1 h2 => by omega)
theorem OwnCh.more (h : OwnCh w lo hi A n c cs) (hh : hi ≤ hi') : OwnCh w lo hi' A n c cs := by
  obtain ⟨hl, hu, sl, hr, hs⟩ := h
  exact ⟨hl, fun b hb => Nat.lt_of_lt_of_le (hu b hb) hh, sl, hr, hs.mine, hs.apart, hs.other, fun i hi b hb => Nat.lt_of_lt_of_le (hs.under i hi b hb) hh⟩
theorem OwnCh.base {lo' : Nat} (h : OwnCh w lo hi A n c cs) (hh : lo' ≤ lo) : OwnCh w lo' hi A n c cs := by
  obtain ⟨hl, hu, sl, hr, hs⟩ := h
  refine ⟨hl, hu, sl, ⟨hr.1, ?_⟩, fun i hi => (hs.mine i hi).base hh, hs.apart, hs.other, hs.under⟩
  rcases hr.2 with h | ⟨g, cap, cur, hv, hg, r⟩
  · exact .inl h
  · exact .inr ⟨g, cap, cur, hv, by omega, r⟩
theorem OwnCh.form (h : OwnCh w lo hi A n c cs) (hn : 0 < n) : ∃ g, A = some ⟨g, 0, none⟩ ∧ lo ≤ g ∧ g < hi ∧ g < w.heap.size := by
  obtain ⟨hl, hu, sl, hr, hs⟩ := h
  obtain ⟨g, cap, hv, h1, h2⟩ := World.ownsRow.form hr hn
  injection hv with hA
  subst hA
  exact ⟨g, rfl, h1, hu g (by simp [Value.ownBlock]), h2⟩
theorem OwnCh.chs (h : OwnCh w lo hi A n c cs) : Chs w hi A n cs := by
  refine ⟨h.1, fun hn => ?_⟩
  obtain ⟨g, rfl, _, h2, _⟩ := h.form hn
  obtain ⟨hl, hu, sl, hr, hs⟩ := h
  refine ⟨g, 0, rfl, h2, fun i hi => ?_⟩
  have m := hs.mine i hi
  refine ⟨?_, ?_, (sl i).A, (sl i).n, (sl i).c, ?_, mine_cap m, mine_none m, m.len, m.2, fun hp => ?_⟩
  · rw [Nat.zero_add, World.ownsRow.cellAt hr _ (by omega), hvs_at _ _ _ _ (by omega), hf0]
  · rw [Nat.zero_add, World.ownsRow.cellAt hr _ (by omega), hvs_at _ _ _ _ (by omega), hf1]
  · rw [Nat.zero_add, World.ownsRow.cellAt hr _ (by omega), hvs_at _ _ _ _ (by omega), hf2]; rfl
  · obtain ⟨b, off, e, hb, hc⟩ := m.byts.2.2 hp
    refine ⟨b, off, e, ?_, hc⟩
    obtain ⟨g', e', _⟩ := m.form hp
    rw [e] at e'
    cases e'
    exact hs.under i hi b (by unfold Sub.v; rw [e]; simp [Value.ownBlock])
theorem OwnCh.free (h : OwnCh w lo hi (some ⟨g, 0, none⟩) n c cs) (k : Nat) : w.frozen? ⟨g, k, none⟩ = false := by
  obtain ⟨hl, hu, sl, hr, hs⟩ := h
  exact World.ownsRow.frozenAt hr k
theorem OwnCh.cell0 {k : Nat} (h : OwnCh w lo hi (some ⟨g, 0, none⟩) n c cs) (hk : k < n) : w.cell? ⟨g, k * 3, none⟩ = some (.int .i64 (cx cs k).kind) := by
  obtain ⟨b, off, _, _, _, e, _, h0, _⟩ := h.chs.at_ hk
  cases e
  simpa using h0
theorem OwnCh.cell1 {k : Nat} (h : OwnCh w lo hi (some ⟨g, 0, none⟩) n c cs) (hk : k < n) : w.cell? ⟨g, k * 3 + 1, none⟩ = some (.int .i64 (cx cs k).name) := by
  obtain ⟨b, off, _, _, _, e, _, _, h0, _⟩ := h.chs.at_ hk
  cases e
  simpa using h0
theorem OwnCh.cell2 {k : Nat} (h : OwnCh w lo hi (some ⟨g, 0, none⟩) n c cs) (hk : k < n) : ∃ Ai ni ci, w.cell? ⟨g, k * 3 + 2, none⟩ = some (.slice Ai ni ci) ∧ ni ≤ ci ∧ (Ai = none → ci = 0) ∧ Byts w hi Ai ni (cx cs k).bytes := by
  obtain ⟨b, off, Ai, ni, ci, e, _, _, _, h1, h2, h3, h4⟩ := h.chs.at_ hk
  cases e
  exact ⟨Ai, ni, ci, by simpa using h1, h2, h3, h4⟩
/-- another change in place of the k-th: its bytes in a block that was made since. -/
theorem OwnCh.put {w0 : World} {A' : Option Addr} {n' c' k : Nat} (x : MChg) (h : OwnCh w0 lo hi (some ⟨g, 0, none⟩) n c cs) (hh : hi ≤ w0.heap.size) (hb : Below w0.heap.size w0 w) (hx : Mine w w0.heap.size A' n' c' x.bytes) (hk : k < n) (hh' : w.heap.size ≤ hi') (hlo : lo ≤ w0.heap.size) :
    OwnCh (((w.setCell ⟨g, k * 3, none⟩ (.int .i64 x.kind)).setCell ⟨g, k * 3 + 1, none⟩ (.int .i64 x.name)).setCell ⟨g, k * 3 + 2, none⟩ (.slice A' n' c')) lo hi' (some ⟨g, 0, none⟩) n c (cs.set k x) ∧
      Touch (fun b => b = g) w (((w.setCell ⟨g, k * 3, none⟩ (.int .i64 x.kind)).setCell ⟨g, k * 3 + 1, none⟩ (.int .i64 x.name)).setCell ⟨g, k * 3 + 2, none⟩ (.slice A' n' c')) := by
  obtain ⟨xk, xm, bs⟩ := x
  have hs0 := hb.size
  have h := h.below (hb.mono hh)
  obtain ⟨hl, hu, sl, hr, hs⟩ := h
  have hg := hr.lt g (by simp [Value.ownBlock])
  have hgu := hu g (by simp [Value.ownBlock])
  obtain ⟨r1, t1⟩ := World.ownsRow.stored hr (k * 3) (.int .i64 xk)
  obtain ⟨r2, t2⟩ := World.ownsRow.stored r1 (k * 3 + 1) (.int .i64 xm)
  obtain ⟨r3, t3⟩ := World.ownsRow.stored r2 (k * 3 + 2) (.slice A' n' c')
  have t : Touch (fun b => b = g) w (((w.setCell ⟨g, k * 3, none⟩ (.int .i64 xk)).setCell ⟨g, k * 3 + 1, none⟩ (.int .i64 xm)).setCell ⟨g, k * 3 + 2, none⟩ (.slice A' n' c')) := ((touch_set (S := fun b => b = g) w g _ _ rfl).trans (touch_set _ g _ _ rfl)).trans (touch_set _ g _ _ rfl)
  refine ⟨⟨by simp [hl], fun b hb' => Nat.lt_of_lt_of_le (hu b hb') (by omega), fun i => if i = k then ⟨A', n', c', bs⟩ else sl i, ?_, ?_, ?_, ?_, ?_⟩, t⟩
  · rw [← hvs_set n cs sl k xk xm ⟨A', n', c', bs⟩ bs hk hl]; exact r3
  · intro i hi1
    rw [cx_set _ _ _ _ (by omega)]
    by_cases h : i = k
    · simp only [h, if_true]
      exact (hx.base hlo).touch t (fun b hb' e => by have := (hx.1.lt b hb').1; omega)
    · simp only [h, if_false]
      exact (hs.mine i hi1).touch t (fun b hb' e => hs.other i hi1 b hb' (by rw [e]; simp [Value.ownBlock]))
  · intro i j hi1 hj hij b
    by_cases h : i = k
    · have h2 : ¬ j = k := by omega
      simp only [h, h2, if_true, if_false]
      intro e1 e2
      have := (hx.1.lt b e1).1
      have := hs.under j hj b e2
      omega
    · by_cases h2 : j = k
      · simp only [h, h2, if_true, if_false]
        intro e1 e2
        have := (hx.1.lt b e2).1
        have := hs.under i hi1 b e1
        omega
      · simp only [h, h2, if_false]
        exact hs.apart i j hi1 hj hij b
  · intro i hi1 b
    by_cases h : i = k
    · simp only [h, if_true]
      intro e1 e2
      have := (hx.1.lt b e1).1
      simp [Value.ownBlock] at e2
      omega
    · simp only [h, if_false]
      exact hs.other i hi1 b
  · intro i hi1 b
    by_cases h : i = k
    · simp only [h, if_true]
      intro e1
      have := (hx.1.lt b e1).2
      omega
    · simp only [h, if_false]
      intro e1
      have := hs.under i hi1 b e1
      omega
theorem hvs_two (cs : List MChg) (sl : Nat → Sub) (k : Nat) (a m : Int) (b : List Int) (hk : k < n) (hl : cs.length = n) : ((hvs n cs sl).set (k * 3) (.int .i64 a)).set (k * 3 + 1) (.int .i64 m) = hvs n (cs.set k ⟨a, m, b⟩) sl := by
  apply List.ext_getElem?
  intro j
  by_cases hj : j < n * 3
  · rw [hvs_at _ _ _ j hj]
    by_cases h1 : j = k * 3 + 1
    · subst h1
      rw [List.getElem?_set_self (by simp [hvs]; omega), hf1, cx_set _ _ _ _ (by omega), if_pos rfl]
    · rw [List.getElem?_set_ne (by omega)]
      by_cases h0 : j = k * 3
      · subst h0
        rw [List.getElem?_set_self (by simp [hvs]; omega), hf0, cx_set _ _ _ _ (by omega), if_pos rfl]
      · rw [List.getElem?_set_ne (by omega), hvs_at _ _ _ j hj]
        unfold hf
        rw [cx_set _ _ _ _ (by omega)]
        by_cases h2 : j % 3 = 2
        · rw [if_neg (by omega), if_neg (by omega), if_neg (by omega), if_neg (by omega)]
        · rw [if_neg (show ¬ j / 3 = k by omega)]
  · rw [List.getElem?_eq_none (by simp [hvs]; omega), List.getElem?_eq_none (by simp [hvs]; omega)]
/-- another kind and name in the k-th change. -/
theorem OwnCh.setTwo {k : Nat} (a m : Int) (h : OwnCh w lo hi (some ⟨g, 0, none⟩) n c cs) (hk : k < n) :
    OwnCh ((w.setCell ⟨g, k * 3, none⟩ (.int .i64 a)).setCell ⟨g, k * 3 + 1, none⟩ (.int .i64 m)) lo hi (some ⟨g, 0, none⟩) n c (cs.set k ⟨a, m, (cx cs k).bytes⟩) := by
  obtain ⟨hl, hu, sl, hr, hs⟩ := h
  have hg := hr.lt g (by simp [Value.ownBlock])
  obtain ⟨r1, t1⟩ := World.ownsRow.stored hr (k * 3) (.int .i64 a)
  obtain ⟨r2, t2⟩ := World.ownsRow.stored r1 (k * 3 + 1) (.int .i64 m)
  have t : Touch (fun b => b = g) w ((w.setCell ⟨g, k * 3, none⟩ (.int .i64 a)).setCell ⟨g, k * 3 + 1, none⟩ (.int .i64 m)) := (touch_set (S := fun b => b = g) w g _ _ rfl).trans (touch_set _ g _ _ rfl)
  refine ⟨by simp [hl], hu, sl, ?_, ⟨fun i hi1 => ?_, hs.apart, hs.other, hs.under⟩⟩
  · rw [← hvs_two cs sl k a m _ hk hl]; exact r2
  · have hm := (hs.mine i hi1).touch t (fun b hb' e => hs.other i hi1 b hb' (by rw [e]; simp [Value.ownBlock]))
    rw [cx_set _ _ _ _ (by omega)]
    by_cases h : i = k
    · subst h; rw [if_pos rfl]; exact hm
    · rw [if_neg h]; exact hm
theorem hvs_same (cs cs' : List MChg) (sl : Nat → Sub) (h : ∀ i, i < n → (cx cs i).kind = (cx cs' i).kind ∧ (cx cs i).name = (cx cs' i).name) : hvs n cs sl = hvs n cs' sl := by
  unfold hvs
  apply List.map_congr_left
  intro j hj
  have hj : j < n * 3 := by simpa using hj
  unfold hf
  rw [(h (j / 3) (by omega)).1, (h (j / 3) (by omega)).2]
/-- other bytes in the k-th change's own slice. -/
theorem OwnCh.inner {k : Nat} (h : OwnCh w lo hi (some ⟨g, 0, none⟩) n c cs) (hk : k < n) :
    ∃ Ai ni ci, w.cell? ⟨g, k * 3 + 2, none⟩ = some (.slice Ai ni ci) ∧ Mine w lo Ai ni ci (cx cs k).bytes ∧ (∀ b, (Value.slice Ai ni ci).ownBlock = some b → lo ≤ b ∧ b < hi) ∧
      ∀ w' bs', Mine w' lo Ai ni ci bs' → w.grownBy w' (Value.slice Ai ni ci).ownBlock → OwnCh w' lo hi (some ⟨g, 0, none⟩) n c (cs.set k ⟨(cx cs k).kind, (cx cs k).name, bs'⟩) := by
  obtain ⟨hl, hu, sl, hr, hs⟩ := h
  refine ⟨(sl k).A, (sl k).n, (sl k).c, ?_, hs.mine k hk, fun b hb => ⟨((hs.mine k hk).1.lt b hb).1, hs.under k hk b hb⟩, fun w' bs' hm hg => ?_⟩
  · rw [World.ownsRow.cellAt hr _ (by omega), hvs_at _ _ _ _ (by omega), hf2]; rfl
  · have t := Touch.of_grown hg
    refine ⟨by simp [hl], hu, sl, ?_, ⟨fun i hi1 => ?_, hs.apart, hs.other, hs.under⟩⟩
    · rw [← hvs_same (n := n) cs (cs.set k ⟨(cx cs k).kind, (cx cs k).name, bs'⟩) sl (fun i hi1 => by
        rw [cx_set _ _ _ _ (by omega)]
        by_cases h : i = k
        · subst h; rw [if_pos rfl]; exact ⟨rfl, rfl⟩
        · rw [if_neg h]; exact ⟨rfl, rfl⟩)]
      refine own_touch hr t (fun b hb e => ?_)
      have : g = b := by simpa [Value.ownBlock] using hb
      subst this
      exact hs.other k hk g e.symm (by simp [Value.ownBlock])
    · rw [cx_set _ _ _ _ (by omega)]
      by_cases h : i = k
      · subst h; rw [if_pos rfl]; exact hm
      · rw [if_neg h]
        exact (hs.mine i hi1).touch t (fun b hb e => hs.apart i k hi1 hk h b hb e.symm)
end
/-- one more change, its bytes made since. -/
theorem OwnCh.pushed {w w' : World} {lo hi hi' n c n' c' g cap : Nat} {A A' : Option Addr} {cs : List MChg} {x : MChg} {sl : Nat → Sub}
    (hl : cs.length = n) (hu : ∀ b, (Value.slice A n c).ownBlock = some b → b < hi) (hs : SubH w lo hi (Value.slice A n c).ownBlock n cs sl) (hx : Mine w lo A' n' c' x.bytes)
    (hxb : ∀ b, (Value.slice A' n' c').ownBlock = some b → hi ≤ b)
    (hr : w'.ownsRow lo 75 3 (.slice (some ⟨g, 0, none⟩) (n + 1) cap) (n + 1) (hvs n cs sl ++ [.int .i64 x.kind, .int .i64 x.name, .slice A' n' c'])) (hg : w.grownBy w' (Value.slice A n c).ownBlock)
    (hgo : (Value.slice A n c).ownBlock = some g ∨ g = w.heap.size) (hh : hi ≤ w.heap.size) (hi1 : w'.heap.size ≤ hi') : OwnCh w' lo hi' (some ⟨g, 0, none⟩) (n + 1) cap (cs ++ [x]) := by
  obtain ⟨xk, xm, bs⟩ := x
  have hsz := hg.size
  have t := Touch.of_grown hg
  refine ⟨by simp [hl], fun b hb => ?_, fun i => if i = n then ⟨A', n', c', bs⟩ else sl i, ?_, ?_⟩
  · have := (World.ownsRow.lt hr b hb).2
    omega
  · rw [← hvs_append n cs sl ⟨A', n', c', bs⟩ xk xm bs hl]; exact hr
  · have hlt : ∀ i, i < n → ∀ b, (sl i).v.ownBlock = some b → b < w.heap.size := fun i hi b hb => (World.ownsRow.lt (hs.mine i hi).1 b hb).2
    have hxl : ∀ b, (Value.slice A' n' c').ownBlock = some b → b < w.heap.size := fun b hb => (World.ownsRow.lt hx.1 b hb).2
    refine ⟨fun i hi => ?_, fun i j hi hj hij b => ?_, fun i hi b => ?_, fun i hi b => ?_⟩
    · rw [cx_append, hl]
      by_cases h : i = n
      · simp only [h, if_true]
        exact hx.touch t (fun b hb e => by have := hxb b hb; have := hu b e.symm; omega)
      · simp only [h, if_false]
        exact (hs.mine i (by omega)).touch t (fun b hb e => hs.other i (by omega) b hb e.symm)
    · by_cases h : i = n
      · have h2 : ¬ j = n := by omega
        simp only [h, h2, if_true, if_false]
        intro e1 e2
        have := hxb b e1
        have := hs.under j (by omega) b e2
        omega
      · by_cases h2 : j = n
        · simp only [h, h2, if_true, if_false]
          intro e1 e2
          have := hxb b e2
          have := hs.under i (by omega) b e1
          omega
        · simp only [h, h2, if_false]
          exact hs.apart i j (by omega) (by omega) hij b
    · have hown : (Value.slice (some (⟨g, 0, none⟩ : Addr)) (n + 1) cap).ownBlock = some g := by simp [Value.ownBlock]
      rw [hown]
      by_cases h : i = n
      · simp only [h, if_true]
        intro e1 e2
        cases e2
        have := hxb _ e1
        have := hxl _ e1
        rcases hgo with e | e
        · have := hu _ e; omega
        · omega
      · simp only [h, if_false]
        intro e1 e2
        cases e2
        rcases hgo with e | e
        · exact hs.other i (by omega) _ e1 e
        · have := hlt i (by omega) _ e1; omega
    · by_cases h : i = n
      · simp only [h, if_true]
        intro e1
        have := hxl b e1
        omega
      · simp only [h, if_false]
        intro e1
        have := hlt i (by omega) b e1
        omega
theorem OwnCh.made0 (w : World) : OwnCh (w.alloc (.cells #[] 75)) w.heap.size (w.heap.size + 1) (some ⟨w.heap.size, 0, none⟩) 0 0 [] := by
  refine ⟨rfl, fun b h => by simp [Value.ownBlock] at h; omega, fun _ => ⟨none, 0, 0, []⟩, ?_, fun i h => by omega, fun i j h => by omega, fun i h => by omega, fun i h => by omega⟩
  exact World.ownsRow_lit w #[] 0 (Nat.le_refl _) (by unfold maxLen; omega) rfl
/-- the call answered with changes of its own. -/
def GaveCh (w : World) (cs : List MChg) (e : Ending) (w' : World) : Prop := ∃ A n c, e = .returned (.slice A n c) ∧ OwnCh w' w.heap.size w'.heap.size A n c cs ∧ Below w.heap.size w w'
end Go.Proofs.YtigdcmfmaehjfaaGreat

-- OpenChs: Changes that came in as an argument: what is known of their value.
namespace Go.Proofs.YtigdcmfmaehjfaaGreat
set_option maxRecDepth 20000
set_option linter.unusedVariables false
set_option linter.unusedSimpArgs false
open Go.RowKit Go.ChangeShapes Go.WideShapes Go.Joins Go.Deep

instance : Inhabited MChg := ⟨chg0⟩
/-- the value v is a slice of changes cs that came in. -/
def ChsArg (w : World) (v : Value) (cs : List MChg) : Prop :=
  ∃ A n c, v = .slice A n c ∧ n ≤ maxLen ∧ Chs w w.heap.size A n cs ∧ ∀ i, (cx cs i).bytes.length ≤ maxLen

theorem chs_of_trod {H : Type} {enc : TypeId × Value → H} {w : World} {fuel : Nat} {v : Value} {x : DataW H × List MemPlace}
    (h : DataW.trod enc Tryz.prog w 0 (fun _ => true) true fuel 38 [v] = some x) : ∃ cs, ChsArg w v cs := by
  have he := Tryz.underlying74
  have ce : Tryz.prog.cellsOf 74 = 3 := by kernel_rfl
  rcases open_slice Tryz.underlying38 h with ⟨hcs, _⟩ | ⟨a, l, c, m, n, D, Pl, hcs, _, hl, hm, hmm, _, hx⟩
  · simp at hcs
    exact ⟨[], none, 0, 0, hcs, by unfold maxLen; omega, Chs.none_, fun i => by simp [cx, chg0]⟩
  · simp at hcs
    have hlm : l ≤ m := by rw [hmm]; simp; exact hl
    have each : ∀ i, i < l → ∃ z : MChg, w.cell? (a.add (i * 3)) = some (.int .i64 z.kind) ∧ w.cell? (a.add (i * 3 + 1)) = some (.int .i64 z.name) ∧ z.bytes.length ≤ maxLen ∧ ∃ Ai ni ci, w.cell? (a.add (i * 3 + 2)) = some (.slice Ai ni ci) ∧ ni ≤ ci ∧ (Ai = none → ci = 0) ∧ Byts w w.heap.size Ai ni z.bytes := by
      intro i hi
      obtain ⟨cs', h1, h2⟩ := hx i (by omega)
      rw [ce] at h1
      obtain ⟨_, hlen, hcell⟩ := World.cells?_some h1
      obtain ⟨xs, k, hk, hxy, _, hxl, hf⟩ := DataW.trod_struct he h2
      match xs, hxl, cs', hlen with
      | [y0, y1, y2], _, [v0, v1, v2], _ =>
        have g0 := hf 0 _ rfl
        have g1 := hf 1 _ rfl
        have g2 := hf 2 _ rfl
        have c0 : Tryz.prog.cellsOf 2 = 1 := by kernel_rfl
        have c2 : Tryz.prog.cellsOf 47 = 1 := by kernel_rfl
        simp [c0, c2] at g0 g1 g2
        have e0 := hcell 0 (by omega)
        have e1 := hcell 1 (by omega)
        have e2 := hcell 2 (by omega)
        rw [add_add] at e0 e1 e2
        obtain ⟨z0, q0, _⟩ := DataW.trod_int Tryz.underlying2 g0
        obtain ⟨z1, q1, _⟩ := DataW.trod_int Tryz.underlying2 g1
        obtain ⟨Ai, ni, ci, zs, q2, hr⟩ := row_of_trod Tryz.underlying47 Tryz.underlying5 (by kernel_rfl) g2
        simp at q0 q1
        subst q0 q1 q2
        refine ⟨⟨z0, z1, zs.take ni⟩, by simpa using e0, by simpa using e1, ?_, Ai, ni, ci, by simpa using e2, ?_, ?_, hr.byts⟩
        · rcases hr with ⟨_, rfl, _, _⟩ | ⟨_, _, h2, h3, _⟩
          · simp
          · simp; omega
        · rcases hr with ⟨_, rfl, rfl, _⟩ | ⟨_, _, h2, h3, _⟩
          · exact Nat.le_refl _
          · exact h2
        · rcases hr with ⟨_, _, rfl, _⟩ | ⟨_, e, h2, h3, _⟩
          · exact fun _ => rfl
          · intro e'; rw [e] at e'; cases e'
    obtain ⟨Z, hZ⟩ := choose_lt each
    refine ⟨(List.range l).map Z, some a, l, c, hcs, by omega, ⟨by simp, fun hp => ?_⟩, fun i => ?_⟩
    · obtain ⟨b, off, spot⟩ := a
      have h0 := (hZ 0 (by omega)).1
      have hspot : spot = none := by simpa [Addr.add] using World.cell?_spot h0
      subst hspot
      refine ⟨b, off, rfl, by simpa [Addr.add] using block_lt_of_cell h0, fun i hi => ?_⟩
      have hadd : ∀ j, (Addr.add ⟨b, off, none⟩ j) = ⟨b, off + j, none⟩ := fun j => by unfold Addr.add; split <;> simp_all
      obtain ⟨k0, k1, _, Ai, ni, ci, k2, k3, k4, k5⟩ := hZ i hi
      rw [hadd] at k0 k1 k2
      have e : cx ((List.range l).map Z) i = Z i := by simp [cx, hi]
      rw [e]
      exact ⟨k0, k1, Ai, ni, ci, k2, k3, k4, k5⟩
    · by_cases hi : i < l
      · have e : cx ((List.range l).map Z) i = Z i := by simp [cx, hi]
        rw [e]
        exact (hZ i hi).2.2.1
      · have e : cx ((List.range l).map Z) i = chg0 := by simp [cx, hi]
        rw [e]; simp [chg0]

theorem open_chs {H : Type} {enc : TypeId × Value → H} {w : World} {r : Reach} {b0 : Nat} {v : Value} {d : DataW H} {p : List MemPlace} (_hv : Value.okWide Tryz.prog w r b0 38 v)
    (h : DataW.Trod enc Tryz.prog w 0 (fun _ => true) true 38 v d p) (hc : ∃ A n c, v = .slice A n c) : ∃ cs, ChsArg w v cs := by
  obtain ⟨A, n, c, rfl⟩ := hc
  obtain ⟨fuel, hf⟩ := h
  exact chs_of_trod (by simpa [Value.cells] using hf)
end Go.Proofs.YtigdcmfmaehjfaaGreat

-- ChsX: What the helpers of the exact laws do at slices of changes: counted, copied, compared, marked, held against the marks.
namespace Go.Proofs.YtigdcmfmaehjfaaGreat
set_option maxRecDepth 20000
set_option linter.unusedVariables false
set_option linter.unusedSimpArgs false
open Go.RowKit

/-- the size of some changes, as the laws count it. -/
def szH : List MChg → Nat
  | [] => 0
  | c :: r => 1 + c.bytes.length + szH r
theorem szH_append (a b : List MChg) : szH (a ++ b) = szH a + szH b := by
  induction a with
  | nil => simp [szH]
  | cons x r ih => simp [szH, ih]; omega
theorem szH_take (cs : List MChg) (k : Nat) (h : k < cs.length) : szH (cs.take (k + 1)) = szH (cs.take k) + 1 + (cx cs k).bytes.length := by
  rw [cx_take cs k h, szH_append]; simp [szH]; omega
theorem szH_take_le (cs : List MChg) (k : Nat) : szH (cs.take k) ≤ szH cs := by
  conv => rhs; rw [← List.take_append_drop k cs, szH_append]
  omega
theorem szH_len (cs : List MChg) : cs.length ≤ szH cs := by
  induction cs with
  | nil => simp
  | cons x r ih => simp [szH]; omega
theorem cx_bd (cs : List MChg) (h : szH cs ≤ 1048576) (i : Nat) : (cx cs i).bytes.length ≤ 1048576 := by
  by_cases hi : i < cs.length
  · have h1 := szH_take cs i hi
    have h2 := szH_take_le cs (i + 1)
    omega
  · have e : cx cs i = chg0 := by unfold cx; rw [List.getElem?_eq_none (by omega)]; rfl
    rw [e]; simp [chg0]

theorem szChanges_any (A : Option Addr) (n c : Nat) (cs : List MChg) (w : World) (hn : n ≤ maxLen) (hm : ∀ i, (cx cs i).bytes.length ≤ maxLen) (hb : Chs w w.heap.size A n cs) :
    Calls Tryz.prog 18 #[.slice A n c, .int .i64 1048576] w fun e w' => e = .returned (.int .i64 (leftOf 1048576 (szH cs))) ∧ Below w.heap.size w w' := by
  have hlen : cs.length = n := hb.1
  have HB := Lib.hid hb
  clear hb
  unfold maxLen at hn
  by_cases hbig : 1048576 < n
  · have hr : leftOf 1048576 (szH cs) = -1 := if_neg (by have := szH_len cs; omega)
    rw [hr]
    go_enter Tryz.func18, Tryz.ntmps18
    go_wp2
    go_ret
    exact ⟨rfl, Below.refl _ _⟩
  · have hle : n ≤ 1048576 := by omega
    have hwr : IntKind.i64.wrap (1048576 - (n : Int)) = ((1048576 - n : Nat) : Int) := by rw [IntKind.wrap_i64]; omega
    have hd : decide ((((1048576 - n : Nat) : Int)) < 0) = false := decide_eq_false (by omega)
    go_enter Tryz.func18, Tryz.ntmps18
    go_wp2
    go_loopw [1, 5] (fun l i wr => ∃ k x : Nat, k ≤ n ∧ i = .int .i64 k ∧ l = .int .i64 x ∧ x + n + szH (cs.take k) = 1048576 + k ∧ Below w.heap.size w wr) (fun _ i _ => n - (intOf i).toNat)
    case atStart => exact ⟨0, 1048576 - n, Nat.zero_le _, rfl, by first | rfl | (simp; omega), by simp [szH]; omega, Below.refl _ _⟩
    case round =>
      obtain ⟨k, x, hk, rfl, rfl, hx, hbel⟩ := hrel
      by_cases hlt : k < n
      · obtain ⟨b, off, Ai, ni, ci, rfl, hbB, h0, h1, h2, _, _, hby⟩ := (HB.out.below hbel).at_ hlt
        have hni : (cx cs k).bytes.length = ni := hby.1
        have hnm := hm k
        have hst := szH_take cs k (by omega)
        have hall := szH_take_le cs (k + 1)
        have BR := Lib.hid hbel
        clear hbel hby
        go_wp2_with fail
        refine (szChange_any (cx cs k) _ _ _ x _ (by omega) (by omega)).mono ?_
        rintro e w1 ⟨rfl, b1⟩
        have B1 := Lib.hid (BR.out.trans (b1.mono BR.out.size))
        clear b1 h0 h1 h2
        by_cases hq : ni ≤ x
        · rw [if_pos hq]
          have hd2 : decide ((((x - ni : Nat) : Int)) < 0) = false := decide_eq_false (by omega)
          go_wp2
          go_roundw
          case rel => exact ⟨k + 1, x - ni, by omega, by go_num, rfl, by omega, B1.out⟩
          case measure => simp [intOf]; omega
        · rw [if_neg hq]
          go_wp2
          go_ret
          have hle3 : n ≤ k + 1 + szH (cs.drop (k + 1)) := by have := szH_len (cs.drop (k + 1)); simp at this; omega
          have hsum : szH cs = szH (cs.take (k + 1)) + szH (cs.drop (k + 1)) := by rw [← szH_append, List.take_append_drop]
          exact ⟨by rw [show leftOf 1048576 (szH cs) = -1 from if_neg (by omega)]; rfl, B1.out⟩
      · obtain rfl : k = n := by omega
        have hst : cs.take k = cs := List.take_of_length_le (by omega)
        rw [hst] at hx
        go_wp2
        go_ret
        exact ⟨by rw [show leftOf 1048576 (szH cs) = ((1048576 - szH cs : Nat) : Int) from if_pos (by omega)]; exact ret_i64 (by omega), hbel⟩

/-- the changes as far as they are filled. -/
def filledH (cs : List MChg) (n k : Nat) : List MChg := cs.take k ++ List.replicate (n - k) chg0
theorem filledH_set (cs : List MChg) (n k : Nat) (hz : cs.length = n) (hk : k < n) : (filledH cs n k).set k (cx cs k) = filledH cs n (k + 1) := by
  unfold filledH
  obtain ⟨m, hm⟩ : ∃ m, n - k = m + 1 := ⟨n - k - 1, by omega⟩
  have hm' : n - (k + 1) = m := by omega
  have hl : min k cs.length = k := by omega
  rw [hm, hm', cx_take cs k (by omega)]
  simp [List.replicate_succ, hl]
theorem filledH_all (cs : List MChg) (n : Nat) (hz : cs.length = n) : filledH cs n n = cs := by
  unfold filledH
  rw [List.take_of_length_le (by omega)]; simp
def noSubH : Sub := ⟨none, 0, 0, []⟩
theorem make_changes (n : Nat) (hn : n ≤ 2199023255552) (W : World) :
    (Instr.makeSlice 42 (.int .i64 (n : Int)) (.int .i64 (n : Int))).run Tryz.prog W = .ok (.slice (some ⟨W.heap.size, 0, none⟩) n n) (W.alloc (.cells (hvs n (List.replicate n chg0) fun _ => noSubH).toArray 75)) := by
  obtain ⟨i0, hi, hz0, hz1, hz2⟩ := info_parts Tryz.infoCh
  have hr := run_make (P := Tryz.prog) W 42 75 i0 (.agg #[.int .i64 0, .int .i64 0, .slice none 0 0]) Tryz.underlying42 hi hz0 .i64 .i64 n n (by omega) (by omega) (by rw [hz2]; omega) (by omega)
  simp only [Int.toNat_natCast] at hr
  rw [hr, hz1]
  have e : madeCells (Value.agg #[.int .i64 0, .int .i64 0, .slice none 0 0]).cells (n * 3) = (hvs n (List.replicate n chg0) fun _ => noSubH).toArray := by
    apply Array.ext
    · simp [madeCells, hvs]
    · intro i h1 h2
      have hn : i < n * 3 := by simpa [madeCells] using h1
      have hd : i / 3 < n := by omega
      simp [madeCells, hvs, Value.cells, hf, cx, hd, Sub.v, noSubH, chg0]
      rcases (show i % 3 = 0 ∨ i % 3 = 1 ∨ i % 3 = 2 by omega) with h | h | h <;> simp [h]
  rw [e]
theorem OwnCh.of_made (w : World) (n : Nat) (hm : n ≤ maxLen) : OwnCh (w.alloc (.cells (hvs n (List.replicate n chg0) fun _ => noSubH).toArray 75)) w.heap.size (w.heap.size + 1) (some ⟨w.heap.size, 0, none⟩) n n (List.replicate n chg0) := by
  refine ⟨by simp, fun b h => by simp [Value.ownBlock] at h; omega, fun _ => noSubH, ?_, ?_⟩
  · refine ⟨by simp [hvs], .inr ⟨w.heap.size, n, _, rfl, Nat.le_refl _, heap_alloc_new _ _, Nat.le_refl _, hm, by simp [hvs], List.take_of_length_le (by simp [hvs])⟩⟩
  · refine ⟨fun i hi => ?_, fun i j _ _ _ b h => by simp [Sub.v, noSubH, Value.ownBlock] at h, fun i _ b h => by simp [Sub.v, noSubH, Value.ownBlock] at h, fun i _ b h => by simp [Sub.v, noSubH, Value.ownBlock] at h⟩
    have e : cx (List.replicate n chg0) i = chg0 := by simp [cx, hi]
    rw [e]
    exact Mine.nil _ _

theorem copyH_any (A : Option Addr) (n c : Nat) (cs : List MChg) (B : Nat) (w : World) (hn : n ≤ 2199023255552) (hm : ∀ i, (cx cs i).bytes.length ≤ 1048576) (hB : B ≤ w.heap.size) (hb : Chs w B A n cs) :
    Calls Tryz.prog 20 #[.slice A n c] w (GaveCh w cs) := by
  have HB := Lib.hid hb
  have hlen := hb.1
  clear hb
  have HM := Lib.hid (make_changes n hn)
  go_enter Tryz.func20, Tryz.ntmps20
  have hmk := HM.out
  go_wp2
  clear hmk
  have M0 := Lib.hid (OwnCh.of_made w n (by unfold maxLen; omega))
  go_loopw [4] (fun i wr => ∃ k : Nat, k ≤ n ∧ i = .int .i64 k ∧ OwnCh wr w.heap.size wr.heap.size (some ⟨w.heap.size, 0, none⟩) n n (filledH cs n k) ∧ Below w.heap.size w wr) (fun i _ => n - (intOf i).toNat)
  case atStart => exact ⟨0, Nat.zero_le _, rfl, by simpa [filledH] using M0.out, (Below.refl _ _).alloc (Nat.le_refl _) _⟩
  case round =>
    obtain ⟨k, hk, rfl, hm', hbel⟩ := hrel
    by_cases hlt : k < n
    · obtain ⟨b, off, Ai, ni, ci, rfl, hbB, h0, h1, h2, _, _, hby⟩ := (HB.out.below (hbel.mono hB)).at_ hlt
      have hni : (cx cs k).bytes.length = ni := hby.1
      have hset := filledH_set cs n k hlen hlt
      have hnm := hm k
      have hs0 := hbel.size
      generalize cx cs k = x at h0 h1 h2 hset hby hni hnm
      have HS := Lib.hid hset
      have HY := Lib.hid hby
      clear hset hby
      have MR := Lib.hid hm'
      have BR := Lib.hid hbel
      clear hm' hbel
      go_wp2_with fail
      refine (toChange_any x _ _ _ B _ (by omega) (by omega) HY.out).mono ?_
      rintro e w1 ⟨A1, n1, c1, rfl, m1, b1⟩
      have o1 := MR.out.below b1
      have hc0 := o1.cell0 hlt
      have hc1 := o1.cell1 hlt
      obtain ⟨Aj, nj, cj, hc2, _, _, _⟩ := o1.cell2 hlt
      have hf0 := o1.free (k * 3)
      have hf1 := o1.free (k * 3 + 1)
      have hf2 := o1.free (k * 3 + 2)
      have hp := MR.out.put x (Nat.le_refl _) b1 m1 hlt (Nat.le_refl _) hs0
      rw [HS.out] at hp
      have S1 := Lib.hid hp
      have B1 := Lib.hid (BR.out.trans (b1.mono BR.out.size))
      have Z1 := Lib.hid hs0
      clear hp b1 o1 m1 h0 h1 h2 hs0
      go_wp2
      go_roundw
      case rel =>
        refine ⟨k + 1, by omega, by go_num, ?_, B1.out.trans (S1.out.2.below B1.out.size (fun b hb h => by omega))⟩
        simpa using S1.out.1
      case measure => simp [intOf]; omega
    · go_wp2
      go_ret
      obtain rfl : k = n := by omega
      rw [filledH_all cs k hlen] at hm'
      exact ⟨_, k, k, rfl, hm', hbel⟩
theorem likeH_yes (A A' : Option Addr) (n c c' : Nat) (cs : List MChg) (B B' : Nat) (w : World) (hn : n ≤ 1048576) (hm : ∀ i, (cx cs i).bytes.length ≤ 1048576) (hB : B ≤ w.heap.size) (hB' : B' ≤ w.heap.size) (hb : Chs w B A n cs) (hb' : Chs w B' A' n cs) :
    Calls Tryz.prog 22 #[.slice A n c, .slice A' n c'] w fun e w' => e = .returned (.bool true) ∧ Below w.heap.size w w' := by
  have HB := Lib.hid (hb.more hB)
  have HB' := Lib.hid (hb'.more hB')
  clear hb hb'
  go_enter Tryz.func22, Tryz.ntmps22
  go_wp2
  go_loopw [5] (fun i wr => ∃ k : Nat, k ≤ n ∧ i = .int .i64 k ∧ Below w.heap.size w wr) (fun i _ => n - (intOf i).toNat)
  case atStart => exact ⟨0, Nat.zero_le _, rfl, Below.refl _ _⟩
  case round =>
    obtain ⟨k, hk, rfl, hbel⟩ := hrel
    by_cases hlt : k < n
    · obtain ⟨b, off, Ai, ni, ci, rfl, hbB, h0, h1, h2, _, _, hy⟩ := (HB.out.below hbel).at_ hlt
      obtain ⟨b', off', Ai', ni', ci', rfl, hbB', h0', h1', h2', _, _, hy'⟩ := (HB'.out.below hbel).at_ hlt
      have hnm := hm k
      have e1 : ni' = ni := hy'.1.symm.trans hy.1
      obtain rfl := e1
      have hl := hy.1
      generalize cx cs k = x at h0 h1 h2 h0' h1' h2' hy hy' hnm hl
      have Y := Lib.hid hy
      have Y' := Lib.hid hy'
      have BR := Lib.hid hbel
      clear hbel hy hy'
      go_wp2
      go_still_tail 8, (by kernel_rfl)
      change wpList _ _ _ _ _ wr.drew
      have BD := Lib.hid BR.out.drew
      have hsz := BR.out.size
      have Y := Lib.hid (Y.out.drewN 1)
      have Y' := Lib.hid (Y'.out.drewN 1)
      have e2 : wr.drewN 1 = wr.drew := rfl
      rw [e2] at Y Y'
      have hsz2 : wr.drew.heap.size = wr.heap.size := rfl
      generalize wr.drew = w2 at BD Y Y' hsz2
      clear h0 h1 h2 h0' h1' h2' e2
      go_wp2_with fail
      refine (eqChange_yes x _ _ _ _ _ _ _ _ (by omega) (by omega) (by omega) Y.out Y'.out).mono ?_
      rintro e w3 ⟨rfl, b3⟩
      have B3 := Lib.hid (BD.out.trans (b3.mono BD.out.size))
      clear b3
      go_wp2
      go_roundw
      case rel => exact ⟨k + 1, by omega, by go_num, B3.out⟩
      case measure => simp [intOf]; omega
    · go_wp2
      go_ret
      exact ⟨rfl, hbel⟩
end Go.Proofs.YtigdcmfmaehjfaaGreat
