/- Several texts in one, in build order: NodesOf, NodesL, Clone, ContI, ReachF, ReachP. -/
import Derived.Test.YtopaobjpcafjlaaPkE
import Derived.Deep.RegionHeld3
-- NodesOf: What the program makes of cells: its list of nodes.
namespace Go.Proofs.Ytopaobjpcafjlaa
set_option maxRecDepth 100000
set_option linter.unusedVariables false
set_option linter.unusedSimpArgs false
open Go.RowKit

theorem NV.use_blk {x : NV} {g : Nat} (h : x.use g) : NodeBlk x.v g := by
  obtain ⟨Ap, np, cp, Ak, nk, ck, nd⟩ := x
  rcases h with ⟨_, a, ha, e⟩ | ⟨_, a, ha, e⟩
  · exact ⟨_, Ap, np, cp, Ak, nk, ck, _, rfl, .inl (by simp only at ha; rw [ha, ← e]; rfl)⟩
  · exact ⟨_, Ap, np, cp, Ak, nk, ck, _, rfl, .inr (by simp only at ha; rw [ha, ← e]; rfl)⟩
/-- the list of nodes is that of the cells, each node in memory of the call's own. -/
structure NodesIs (w : World) (lo : Nat) (R : SR) (ps : List (Int × NV)) (cs : List (Int × List Int)) : Prop where
  sl : SLN w lo R ps
  len : ps.length = cs.length
  at_ : ∀ i, i < ps.length → (ps[i]?.getD (0, nv0)).1 = (cel cs i).1 ∧ NodeRead (cel cs i).2 (ps[i]?.getD (0, nv0)).2.nd true
  own : ∀ y ∈ ps, OwnN w lo y.2.v y.2.nd
  blk : ∀ y ∈ ps, ∀ g, NodeBlk y.2.v g → ¬ R.at_ g
theorem NodesIs.below {w w' : World} {lo : Nat} {R : SR} {ps : List (Int × NV)} {cs : List (Int × List Int)} (h : NodesIs w lo R ps cs) (hb : Below w.heap.size w w') : NodesIs w' lo R ps cs :=
  ⟨h.sl.below hb, h.len, h.at_, fun y hy => (h.own y hy).below hb, h.blk⟩
theorem NodesIs.touch {S : Nat → Prop} {w w' : World} {lo : Nat} {R : SR} {ps : List (Int × NV)} {cs : List (Int × List Int)} (h : NodesIs w lo R ps cs) (t : Touch S w w') (h1 : ∀ g, R.at_ g → ¬ S g) (h2 : ∀ y ∈ ps, ∀ g, NodeBlk y.2.v g → ¬ S g) : NodesIs w' lo R ps cs :=
  ⟨h.sl.touch t h1 (fun y hy g hg => h2 y hy g (NV.use_blk hg)), h.len, h.at_, fun y hy => (h.own y hy).touch t (h2 y hy), h.blk⟩
theorem SLN.not_at {w : World} {lo g : Nat} {R : SR} {ps : List (Int × NV)} {t : TypeId} {cs : Array Value} (h : SLN w lo R ps) (hb : Box w g t cs) (h1 : t ≠ 2) (h2 : t ≠ 52) : ¬ R.at_ g := fun e => by
  rcases e with ⟨a, ha, e⟩ | ⟨a, ha, e⟩
  · exact own_box_ne h.keys hb h1 (by rw [ha, ← e]; rfl)
  · exact own_box_ne h.vals hb h2 (by rw [ha, ← e]; rfl)
theorem low_end (l : List Int) (m : Int) (h : ∀ x ∈ l, x < m) : lowI l m = l.length ∧ hitI l m = false := by
  have e : lowI l m = l.length := lowI_at l m l.length (Nat.le_refl _) (fun j hj => by rw [List.getElem?_eq_getElem hj]; exact h _ (List.getElem_mem hj)) (fun hk => absurd hk (Nat.lt_irrefl _))
  exact ⟨e, by unfold hitI; rw [e]; simp⟩
theorem cel_take_at (cs : List (Int × List Int)) (k i : Nat) (h : i < k) : cel (cs.take k) i = cel cs i := by
  unfold cel
  rw [List.getElem?_take, if_pos h]
/-- one more node behind the others. -/
theorem NodesIs.snoc {w w' : World} {lo p : Nat} {R R' : SR} {ps : List (Int × NV)} {cs : List (Int × List Int)} {x : NV} {k : Nat} (h : NodesIs w lo R ps (cs.take k)) (hk : k < cs.length) (hx : OwnN w lo x.v x.nd) (hxb : ∀ g, NodeBlk x.v g → ¬ R.at_ g)
    (hp : ∀ y ∈ ps, ∀ g, NodeBlk y.2.v g → g ≠ p) (hxp : ∀ g, NodeBlk x.v g → g ≠ p) (hr : NodeRead (cel cs k).2 x.nd true)
    (hs : SLN w' lo R' (ps ++ [((cel cs k).1, x)])) (hf : R'.from_ R w.heap.size) (t : Touch (fun g => g = p ∨ R.at_ g) w w') : NodesIs w' lo R' (ps ++ [((cel cs k).1, x)]) (cs.take (k + 1)) := by
  have hl := h.len
  rw [List.length_take] at hl
  have hpl : ps.length = k := by omega
  refine ⟨hs, by simp [hpl]; omega, fun i hi => ?_, fun y hy => ?_, fun y hy g hg e => ?_⟩
  · simp at hi
    rw [cel_take_at cs _ i (by omega)]
    by_cases e : i = k
    · subst e
      rw [← hpl, List.getElem?_append_right (Nat.le_refl _)]
      simp [hpl]
      exact hr
    · have h1 := h.at_ i (by omega)
      rw [cel_take_at cs _ i (by omega)] at h1
      rw [List.getElem?_append_left (by omega)]
      exact h1
  · rcases List.mem_append.1 hy with hy | hy
    · exact (h.own y hy).touch t (fun g hg e => e.elim (hp y hy g hg) (h.blk y hy g hg))
    · simp at hy
      subst hy
      exact hx.touch t (fun g hg e => e.elim (hxp g hg) (hxb g hg))
  · rcases List.mem_append.1 hy with hy | hy
    · rcases hf g e with e | e
      · exact h.blk y hy g hg e
      · have := ((h.own y hy).blk hg).2; omega
    · simp at hy
      subst hy
      rcases hf g e with e | e
      · exact hxb g hg e
      · have := (hx.blk hg).2; omega
/-- the last name that has come; 0 where none has. -/
def lastC (cs : List (Int × List Int)) (k : Nat) : Int := if k = 0 then 0 else (cel cs (k - 1)).1
theorem kvs_rise_lt {w : World} {lo : Nat} {R : SR} {ps : List (Int × NV)} {cs : List (Int × List Int)} {k : Nat} {m : Int} (h : NodesIs w lo R ps (cs.take k)) (hk : k < cs.length) (hm : lastC cs k < m) : ∀ x ∈ kvs ps, x < m := by
  have hl := h.len
  rw [List.length_take] at hl
  have hpl : ps.length = k := by omega
  intro x hx
  obtain ⟨i, hi, rfl⟩ := List.mem_iff_getElem.1 hx
  have hi' : i < ps.length := by simpa [kvs] using hi
  have h1 := riseI_le (kvs ps) h.sl.rise i (k - 1) (by omega) (by rw [kvs_len]; omega)
  have h2 := h.at_ (k - 1) (by omega)
  rw [cel_take_at cs k (k - 1) (by omega)] at h2
  rw [kvs_at ps (k - 1) (by omega)] at h1
  rw [List.getElem?_eq_getElem (by omega)] at h2
  unfold lastC at hm
  rw [if_neg (by omega)] at hm
  rw [List.getElem?_eq_getElem hi] at h1
  have h3 : (kvs ps)[i] ≤ ps[k - 1].1 := h1
  have h4 : ps[k - 1].1 = (cel cs (k - 1)).1 := h2.1
  omega
theorem not_right_low (cs : List (Int × List Int)) (k : Nat) (hk : k < cs.length) (hle : (cel cs k).1 ≤ lastC cs k) : ¬ Right cs := fun h => by
  have h3 := h.pos k hk
  have h4 := (h.2 k hk).2.2
  unfold lastC at hle
  by_cases h0 : k = 0
  · rw [if_pos h0] at hle; omega
  · rw [if_neg h0] at hle
    have := h4 (by omega)
    omega
/-- a box of two cells, written anew. -/
theorem set2 {w : World} {g : Nat} {t : TypeId} {a b : Value} (h : Box w g t #[a, b]) (a' b' : Value) :
    Box ((w.setCell ⟨g, 0, none⟩ a').setCell ⟨g, 1, none⟩ b') g t #[a', b'] ∧ Touch (fun x => x = g) w ((w.setCell ⟨g, 0, none⟩ a').setCell ⟨g, 1, none⟩ b') :=
  ⟨(h.set_ 0 a').set_ 1 b', (touch_set (S := fun x => x = g) w g 0 a' rfl).trans (touch_set _ g 1 b' rfl)⟩
theorem Box.drewN {w : World} {g : Nat} {t : TypeId} {cs : Array Value} (h : Box w g t cs) (k : Nat) : Box (w.drewN k) g t cs := h
set_option maxHeartbeats 4000000 in
theorem nodesOf_any (A : Option Addr) (n c : Nat) (cs : List (Int × List Int)) (B : Nat) (w : World) (hn : n ≤ 1048576) (hc : n ≤ c) (hA : A = none → c = 0) (hm : ∀ i, (cel cs i).2.length ≤ 1048576) (hB : B ≤ w.heap.size) (hb : Cells w B A n cs) :
    Calls Try.prog 18 #[.slice A n c] w fun e w' => ∃ R ps b, e = .returned (.tuple #[.agg #[R.kv ps.length, R.vv ps.length], .bool b]) ∧ Below w.heap.size w w' ∧
      ((b = true ∧ Right cs ∧ NodesIs w' w.heap.size R ps cs) ∨ (b = false ∧ ¬ Right cs ∧ R = SR0 ∧ ps = [])) := by
  have mixed : Try.prog.follows .mixedOrders = true := by kernel_rfl
  have HB := Lib.hid (hb.more hB)
  have hlen := hb.1
  clear hb
  obtain ⟨w0, hw0⟩ : ∃ w0, (w.alloc (.cells #[.slice none 0 0, .slice none 0 0] 44)).alloc (.cells #[.slice none 0 0, .slice none 0 0] 44) = w0 := ⟨_, rfl⟩
  have x0 : Box w0 w.heap.size 44 #[.slice none 0 0, .slice none 0 0] := hw0 ▸ heap2_0 _ _ _
  have y0 : Box w0 (w.heap.size + 1) 44 #[.slice none 0 0, .slice none 0 0] := hw0 ▸ heap2_1 _ _ _
  have s0 : w0.heap.size = w.heap.size + 2 := hw0 ▸ size2 _ _ _
  have b0 : Below w.heap.size w w0 := hw0 ▸ below2 _ _ _
  have X0 := Lib.hid x0
  have Y0 := Lib.hid y0
  have B0 := Lib.hid b0
  clear x0 y0 b0
  by_cases hbig : 80 < n
  · have q20 := X0.out.cell 0
    have q21 := X0.out.cell 1
    have f20 := X0.out.free
    have y20 := Y0.out.cell 0
    have y21 := Y0.out.cell 1
    simp at q20 q21 y20 y21
    have s2 := set2 X0.out (.slice none 0 0) (.slice none 0 0)
    have S2 := Lib.hid s2
    clear s2
    go_enter Try.func18, Try.ntmps18
    go_wp2
    refine bodyPost_ret (v := .tuple #[.agg #[.slice none 0 0, .slice none 0 0], .bool false]) (results_box2 Try.results18 _ _ w.heap.size _ _ _ _ rfl rfl S2.out.1 Try.underlying44 rfl (by kernel_rfl)) rfl ?_
    exact ⟨SR0, [], false, rfl, B0.out.trans (S2.out.2.below B0.out.size (fun k hk e => by omega)), .inr ⟨rfl, fun h => by have := h.1; omega, rfl, rfl⟩⟩
  · go_enter Try.func18, Try.ntmps18
    go_wp2
    go_loopw [5, 16] (fun la i wr => ∃ (k : Nat) (R : SR) (ps : List (Int × NV)), k ≤ n ∧ i = .int .i64 k ∧ la = .int .i64 (lastC cs k) ∧ NodesIs wr w.heap.size R ps (cs.take k) ∧ Box wr (w.heap.size + 1) 44 #[R.kv ps.length, R.vv ps.length] ∧
      Box wr w.heap.size 44 #[.slice none 0 0, .slice none 0 0] ∧ (∀ y ∈ ps, ∀ g, NodeBlk y.2.v g → w.heap.size + 2 ≤ g) ∧ (∀ i, i < k → CellAt cs i) ∧ Below w.heap.size w wr) (fun _ i _ => n - (intOf i).toNat)
    case atStart =>
      exact ⟨0, SR0, [], Nat.zero_le _, rfl, rfl, ⟨SLN.nil _ _, by simp, fun i hi => by simp at hi, fun y hy => by simp at hy, fun y hy => by simp at hy⟩, Y0.out, X0.out, fun y hy => by simp at hy, fun i hi => by omega, B0.out⟩
    case round =>
      obtain ⟨k, R, ps, hk, rfl, rfl, hnd, hpb, hrb, hnp, hpre, hbel⟩ := hrel
      have hs0 := hbel.size
      have hps : ps.length = k := by have := hnd.len; rw [List.length_take] at this; omega
      have hp1 := hpb.lt
      have ND := Lib.hid hnd
      have PB := Lib.hid hpb
      have RB := Lib.hid hrb
      have NP := Lib.hid hnp
      have PRE := Lib.hid hpre
      have BR := Lib.hid hbel
      clear hnd hpb hrb hnp hpre hbel hw0
      by_cases hlt : k < n
      · obtain ⟨b, off, Ai, ni, ci, rfl, hbB, h0, h1, hci, hAi, hy⟩ := (HB.out.below BR.out).at_ hlt
        obtain ⟨z, hz⟩ : ∃ z, cel cs k = z := ⟨_, rfl⟩
        have hnm := hm k
        rw [hz] at h0 hy hnm
        have HZ := Lib.hid hz
        have hni := hy.1
        have Y := Lib.hid hy
        clear hy hz
        obtain ⟨w1, hw1⟩ : ∃ w1, wr.alloc (.cells #[.int .i64 z.1, .slice Ai ni ci] 40) = w1 := ⟨_, rfl⟩
        have b1 : Below wr.heap.size wr w1 := hw1 ▸ (Below.refl _ _).alloc (Nat.le_refl _) _
        have C1 := Lib.hid (show Box w1 wr.heap.size 40 #[.int .i64 z.1, .slice Ai ni ci] from hw1 ▸ heap_alloc_new _ _)
        have s1 : w1.heap.size = wr.heap.size + 1 := hw1 ▸ by simp
        have B1 := Lib.hid b1
        clear b1
        have c10 := C1.out.cell 0
        have c11 := C1.out.cell 1
        simp at c10 c11
        go_wp2_with fail
        clear c10 c11 hw1
        refine (named_any z.1 Ai ni ci z.2 w.heap.size w1 (by omega) hci hAi (by omega) (Y.out.below (B1.out.mono hs0))).mono ?_
        rintro e w2 ⟨v, nd, r, rfl, own, b2, hcase⟩
        have s2 := b2.size
        have O2 := Lib.hid own
        have B2 := Lib.hid b2
        have CASE := Lib.hid hcase
        obtain ⟨Ap, np, cp, Ak, nk, ck, rfl, _⟩ := own
        clear hcase b2
        obtain ⟨w3, hw3⟩ : ∃ w3, w2.alloc (.cells #[.int .i64 nd.kind, .slice Ap np cp, .slice Ak nk ck, .string nd.val] 52) = w3 := ⟨_, rfl⟩
        have b3 : Below w2.heap.size w2 w3 := hw3 ▸ (Below.refl _ _).alloc (Nat.le_refl _) _
        have N3 := Lib.hid (show Box w3 w2.heap.size 52 #[.int .i64 nd.kind, .slice Ap np cp, .slice Ak nk ck, .string nd.val] from hw3 ▸ heap_alloc_new _ _)
        have s3 : w3.heap.size = w2.heap.size + 1 := hw3 ▸ by simp
        have B03 := Lib.hid (B1.out.trans ((B2.out.trans (b3.mono s2)).mono (by omega)))
        have C3 := Lib.hid ((C1.out.below B2.out (by omega)).below b3 (by omega))
        have O3 := Lib.hid (O2.out.below b3)
        have R3 := Lib.hid (RB.out.below B03.out (by omega))
        have P3 := Lib.hid (PB.out.below B03.out (by omega))
        have D3 := Lib.hid (ND.out.below B03.out)
        have A3 := Lib.hid (BR.out.trans (B03.out.mono hs0))
        clear b3
        have c30 := C3.out.cell 0
        have c31 := C3.out.cell 1
        simp at c30 c31
        obtain ⟨la, hla⟩ : ∃ la, lastC cs k = la := ⟨_, rfl⟩
        have LA := Lib.hid hla
        rw [hla]
        clear hla
        cases r with
        | false =>
          have q0 := R3.out.cell 0
          have q1 := R3.out.cell 1
          have f0 := R3.out.free
          simp at q0 q1
          have hno : ¬ Right cs := (fun h => by
            rcases CASE.out with ⟨e, _⟩ | ⟨_, hn⟩
            · cases e
            · have h1 := (h.2 k (by omega)).1
              have h2 := (h.2 k (by omega)).2.1
              rw [HZ.out] at h1 h2
              exact hn ⟨h1, h2⟩)
          have HNO := Lib.hid hno
          have s2 := set2 R3.out (.slice none 0 0) (.slice none 0 0)
          have S2 := Lib.hid s2
          clear hno s2
          go_wp2
          refine bodyPost_ret (v := .tuple #[.agg #[.slice none 0 0, .slice none 0 0], .bool false]) (results_box2 Try.results18 _ _ w.heap.size _ _ _ _ rfl rfl S2.out.1 Try.underlying44 rfl (by kernel_rfl)) rfl ?_
          exact ⟨SR0, [], false, rfl, A3.out.trans (S2.out.2.below A3.out.size (fun k hk e => by omega)), .inr ⟨rfl, HNO.out, rfl, rfl⟩⟩
        | true =>
          have hyes : NodeRead z.2 nd true ∧ nameOf z.2 = z.1 := by
            rcases CASE.out with ⟨_, h⟩ | ⟨e, _⟩
            · exact h
            · cases e
          have RD := Lib.hid hyes.1
          have H1 := Lib.hid hyes.2
          clear hyes
          by_cases h2 : z.1 ≤ la
          · have hd2 : decide (z.1 ≤ la) = true := decide_eq_true h2
            have q0 := R3.out.cell 0
            have q1 := R3.out.cell 1
            have f0 := R3.out.free
            simp at q0 q1
            have hno : ¬ Right cs := (not_right_low cs k (by omega) (by rw [HZ.out, LA.out]; exact h2))
            have HNO := Lib.hid hno
            have s2 := set2 R3.out (.slice none 0 0) (.slice none 0 0)
            have S2 := Lib.hid s2
            clear hno s2
            go_wp2
            refine bodyPost_ret (v := .tuple #[.agg #[.slice none 0 0, .slice none 0 0], .bool false]) (results_box2 Try.results18 _ _ w.heap.size _ _ _ _ rfl rfl S2.out.1 Try.underlying44 rfl (by kernel_rfl)) rfl ?_
            exact ⟨SR0, [], false, rfl, A3.out.trans (S2.out.2.below A3.out.size (fun k hk e => by omega)), .inr ⟨rfl, HNO.out, rfl, rfl⟩⟩
          · have hd2 : decide (z.1 ≤ la) = false := decide_eq_false h2
            have c30 := C3.out.cell 0
            have n30 := N3.out.cell 0
            have n31 := N3.out.cell 1
            have n32 := N3.out.cell 2
            have n33 := N3.out.cell 3
            simp at c30 n30 n31 n32 n33
            have hrat : ∀ g, R.at_ g → g < wr.heap.size := fun g hg => (ND.out.sl.lt g hg).2
            have RAT := Lib.hid hrat
            have hblk : ∀ g, NodeBlk (⟨Ap, np, cp, Ak, nk, ck, nd⟩ : NV).v g → wr.heap.size < g := fun g hg => by have := (O2.out.blk hg).1; omega
            have BLK := Lib.hid hblk
            clear hrat hblk
            go_wp2_with fail
            refine (put_any (w.heap.size + 1) w.heap.size R ps z.1 ⟨Ap, np, cp, Ak, nk, ck, nd⟩ w3 P3.out D3.out.sl A3.out.size O3.out.node (fun g hg e => by have h1 := BLK.out g (NV.use_blk hg); have h2 := RAT.out g e; omega)
              (fun g hg => by have h1 := BLK.out g (NV.use_blk hg); omega) (fun y hy g hg => by have h1 := NP.out y hy g (NV.use_blk hg); omega) (by omega)).mono ?_
            have hlow := low_end (kvs ps) z.1 (kvs_rise_lt ND.out (by omega) (by rw [LA.out]; omega))
            rintro e w4 (⟨hh, _, _⟩ | ⟨_, rfl, R', pb, sl, hf, t4⟩)
            · rw [hlow.2] at hh; cases hh
            · rw [hlow.1, kvs_len, insP_end] at sl
              have hs4 := t4.size
              have hnb : ¬ R.at_ w.heap.size := D3.out.sl.not_at R3.out (by decide) (by decide)
              have C5 := Lib.hid (show Box w4 wr.heap.size 40 #[.int .i64 z.1, .slice Ai ni ci] from (t4.block _ (by omega) (fun e => e.elim (fun e => by omega) (fun e => by have := RAT.out _ e; omega))).trans C3.out)
              have R5 := Lib.hid (show Box w4 w.heap.size 44 #[.slice none 0 0, .slice none 0 0] from (t4.block _ (by omega) (fun e => e.elim (fun e => by omega) hnb)).trans R3.out)
              have A5 := Lib.hid (A3.out.trans (t4.below A3.out.size (fun g hg e => e.elim (fun e => by omega) (fun e => by have := (ND.out.sl.lt g e).1; omega))))
              have D5 := NodesIs.snoc (x := ⟨Ap, np, cp, Ak, nk, ck, nd⟩) D3.out (by omega) (O3.out.base (show w.heap.size ≤ w1.heap.size by omega)) (fun g hg e => by have h1 := BLK.out g hg; have h2 := RAT.out g e; omega) (fun y hy g hg => by have h1 := NP.out y hy g hg; omega) (fun g hg => by have h1 := BLK.out g hg; omega)
                (by rw [HZ.out]; exact RD.out) (by rw [HZ.out]; exact sl) hf t4
              rw [HZ.out] at D5
              have D5 := Lib.hid D5
              have P5 := Lib.hid pb
              clear c30 n30 n31 n32 n33 sl hf t4 pb hlow hnb
              have c50 := C5.out.cell 0
              simp at c50
              go_wp2
              go_roundw
              case rel =>
                refine ⟨k + 1, R', ps ++ [(z.1, ⟨Ap, np, cp, Ak, nk, ck, nd⟩)], by omega, by go_num, ?_, D5.out, by rw [List.length_append]; exact P5.out, R5.out, fun y hy g hg => ?_, fun i hi => ?_, A5.out⟩
                · unfold lastC; rw [if_neg (by omega), Nat.add_sub_cancel, HZ.out]
                · rcases List.mem_append.1 hy with hy | hy
                  · exact NP.out y hy g hg
                  · simp at hy; subst hy
                    have h1 := BLK.out g hg; omega
                · by_cases e : i = k
                  · subst e
                    refine ⟨by rw [HZ.out]; exact (IsNode.of RD.out).1 (by trivial), by rw [HZ.out]; exact H1.out, fun h0 => ?_⟩
                    have h5 := LA.out
                    unfold lastC at h5
                    rw [if_neg (by omega)] at h5
                    rw [HZ.out, h5]; omega
                  · exact PRE.out i (by omega)
              case measure => simp [intOf]; omega
      · obtain rfl : k = n := by omega
        rw [List.take_of_length_le (by omega)] at ND
        have p0 := PB.out.cell 0
        have p1 := PB.out.cell 1
        have q0 := RB.out.cell 0
        have q1 := RB.out.cell 1
        have f0 := RB.out.free
        unfold SR.kv at p0
        unfold SR.vv at p1
        rw [hps] at p0 p1
        simp at p0 p1 q0 q1
        have s2 := set2 RB.out (R.kv k) (R.vv k)
        unfold SR.kv SR.vv at s2
        have S2 := Lib.hid s2
        have hnb : ¬ R.at_ w.heap.size := ND.out.sl.not_at RB.out (by decide) (by decide)
        have NB := Lib.hid hnb
        clear s2 hnb
        go_wp2
        refine bodyPost_ret (v := .tuple #[.agg #[.slice R.Ak k R.ck, .slice R.Av k R.cv], .bool true]) (results_box2 Try.results18 _ _ w.heap.size _ _ _ _ rfl rfl S2.out.1 Try.underlying44 rfl (by kernel_rfl)) rfl ?_
        exact ⟨R, ps, true, by rw [hps]; rfl, BR.out.trans (S2.out.2.below hs0 (fun k hk e => by omega)), .inl ⟨rfl, ⟨by omega, fun i hi => PRE.out i (by omega)⟩, ND.out.touch S2.out.2 (fun g hg e => NB.out (e ▸ hg)) (fun y hy g hg e => by have := NP.out y hy g hg; omega)⟩⟩
end Go.Proofs.Ytopaobjpcafjlaa

-- NodesL: Where a name stands in the list of nodes that is made of cells.
namespace Go.Proofs.Ytopaobjpcafjlaa
set_option maxRecDepth 100000
set_option linter.unusedVariables false
set_option linter.unusedSimpArgs false
open Go.RowKit

/-- where a name stands in the list, as in the cells. -/
theorem NodesIs.find {w : World} {lo : Nat} {R : SR} {ps : List (Int × NV)} {cs : List (Int × List Int)} (h : NodesIs w lo R ps cs) (hr : Right cs) (m : Int) :
    (hitI (kvs ps) m = true → lowI (kvs ps) m < cs.length ∧ findC cs m = lowI (kvs ps) m) ∧ (hitI (kvs ps) m = false → ¬ findC cs m < cs.length) := by
  have key : ∀ i, i < ps.length → ps[i]?.getD (0, nv0) = (ps[i]?.getD (0, nv0)) := fun _ _ => rfl
  have hk : ∀ i (hi : i < ps.length), ps[i].1 = (cel cs i).1 := fun i hi => by
    have := (h.at_ i hi).1
    rw [List.getElem?_eq_getElem hi] at this
    exact this
  have hl := h.len
  refine ⟨fun ht => ?_, fun ht hf => ?_⟩
  · obtain ⟨hi, he⟩ := hit_parts ps m ht
    refine ⟨by omega, ?_⟩
    have := hr.find (lowI (kvs ps) m) (by omega)
    rw [← hk _ hi, he] at this
    exact this
  · have h1 := findC_is cs m hf
    have h2 := kvs_not ps m h.sl.rise ht
    refine h2 ?_
    rw [← h1, ← hk _ (by omega)]
    exact List.mem_map_of_mem (List.getElem_mem _)
end Go.Proofs.Ytopaobjpcafjlaa

-- Clone: slices.Clone at int64, as the program calls it. No statement of the program is proved here.
namespace Go.Proofs.Ytopaobjpcafjlaa
set_option maxRecDepth 100000
set_option linter.unusedVariables false
set_option linter.unusedSimpArgs false
open Go.RowKit

set_option maxHeartbeats 2000000 in
theorem clone_any (A : Option Addr) (n c : Nat) (xs : List Int) (B : Nat) (w : World) (hn : n ≤ 1048576) (hB : B ≤ w.heap.size) (hb : Ints w B A n xs) :
    Calls Try.prog 32 #[.slice A n c] w fun e w' => ∃ A' n' c', e = .returned (.slice A' n' c') ∧ OwnI w' w.heap.size A' n' c' xs ∧ Below w.heap.size w w' := by
  obtain ⟨i0, hi0, hz0, hz1, hz2⟩ := info_parts Try.infoInsI
  have hlen := hb.1
  have hq : ∀ (w : World) (a : Option Addr) (n c n' c' : Nat), (binOp .eql 23 (.slice a n c) (.slice none n' c')).run Try.prog w = .ok (.bool a.isNone) w := fun w a n c n' c' => Lib.run_eql_slice_nil w _ _ a n c n' c' Try.underlying23
  have mixed : Try.prog.follows .mixedOrders = true := by kernel_rfl
  have HB := Lib.hid (hb.more hB)
  clear hb
  cases A with
  | none =>
    have hn0 : n = 0 := by
      rcases Nat.eq_zero_or_pos n with h | h
      · exact h
      · obtain ⟨b, off, e, _⟩ := HB.out.2 h
        cases e
    subst hn0
    have hx : xs = [] := List.length_eq_zero_iff.1 hlen
    subst hx
    go_enter Try.func32, Try.ntmps32
    go_wp2
    go_ret
    exact ⟨none, 0, 0, rfl, World.ownsRow_nil _ _ _ _, Below.refl _ _⟩
  | some a =>
    go_enter Try.func32, Try.ntmps32
    go_wp2_with (at_builtin; refine wpList_append_own _ rfl _ _ 23 rfl w.heap.size 2 i0 (.int .i64 0) 1 8 Try.underlying23 hi0 hz0 hz1 hz2 rfl (by decide) _ _ _ rfl (World.ownsRow_made w #[] 0 (Nat.le_refl _) (Nat.zero_le _) rfl) a n c (xs.map (Value.int .i64)) rfl ?qc1 ?qc2 ?qc3 ?qc4 ?qc5 ?qc6 ?_)
    case qc1 => simp; omega
    case qc2 =>
      intro j u hj
      have hjn : j < n := by
        have := (List.getElem?_eq_some_iff.1 hj).1
        simp at this
        omega
      obtain ⟨b, off, e, hb, hc⟩ := (HB.out.alloc (Nat.le_refl _) (.cells #[] 2)).at_ hjn
      cases e
      rw [Addr.add_lit]
      rw [List.getElem?_map, List.getElem?_eq_getElem (by omega)] at hj
      rw [List.getElem?_eq_getElem (by omega)] at hc
      cases hj
      exact hc
    case qc3 => intro u hu; obtain ⟨x, _, rfl⟩ := List.mem_map.1 hu; rfl
    case qc4 => unfold maxLen; omega
    case qc5 => omega
    case qc6 => simp
    intro v' w1 hown hgrow hnil
    have H := Lib.hid hown
    obtain ⟨A', c', rfl⟩ := own_slice hown
    have hb2 := ((Below.refl w.heap.size w).alloc (Nat.le_refl _) (.cells #[] 2)).grown hgrow (by simp) (by intro k hk; simp [Value.ownBlock] at hk; omega)
    have H2 := Lib.hid hb2
    clear hown hgrow hnil hb2
    go_wp2
    go_ret
    exact ⟨A', n, c', rfl, H.out, H2.out⟩
end Go.Proofs.Ytopaobjpcafjlaa

-- ContI: slices.Contains at int64 and at bool, slices.ContainsFunc at int64, as the program calls them. No statement of the program is proved here.
namespace Go.Proofs.Ytopaobjpcafjlaa
set_option maxRecDepth 100000
set_option linter.unusedVariables false
set_option linter.unusedSimpArgs false
open Go.RowKit

theorem mem_take_all {α : Type} [Inhabited α] {P : α → Prop} (l : List α) (d : α) (h : ∀ j, j < l.length → P (l[j]?.getD d)) : ∀ x, x ∈ l → P x := by
  intro x hx
  obtain ⟨j, hj, rfl⟩ := List.mem_iff_getElem.1 hx
  have := h j hj
  rwa [List.getElem?_eq_getElem hj] at this
set_option maxHeartbeats 1600000 in
theorem indexB_any (A : Option Addr) (n c lo : Nat) (l : List Bool) (w : World) (hn : n ≤ 1048576) (hb : w.ownsRow lo 4 1 (.slice A n c) n (l.map Value.bool)) :
    Calls Try.prog 47 #[.slice A n c, .bool false] w fun e w' => (∃ k : Int, e = .returned (.int .i64 k) ∧ (0 ≤ k ↔ false ∈ l)) ∧ ∃ q, w' = w.drewN q := by
  have mixed : Try.prog.follows .mixedOrders = true := by kernel_rfl
  have hlen : l.length = n := by have := hb.1; simpa using this
  have hrow : 0 < n → ∃ g, A = some ⟨g, 0, none⟩ ∧ ∀ k, k < n → w.cell? ⟨g, k, none⟩ = some (.bool (l[k]?.getD true)) := fun h0 => by
    obtain ⟨g, cap, hv, _, _⟩ := World.ownsRow.form hb h0
    injection hv with hA
    refine ⟨g, hA, fun k hk => ?_⟩
    rw [hA] at hb
    have := World.ownsRow.cellAt hb (k * 1) (by omega)
    rw [Nat.mul_one] at this
    rw [this, List.getElem?_map, List.getElem?_eq_getElem (by omega)]
    rfl
  have HB := Lib.hid hrow
  clear hb hrow
  go_enter Try.func47, Try.ntmps47
  go_wp2
  go_loopw [8] (fun s8 wr => ∃ k q : Nat, k ≤ n ∧ s8 = .int .i64 k ∧ wr = w.drewN q ∧ ∀ j, j < k → l[j]?.getD true = true) (fun s8 _ => n - (intOf s8).toNat)
  case atStart => exact ⟨0, 0, Nat.zero_le _, rfl, rfl, fun j hj => absurd hj (Nat.not_lt_zero _)⟩
  case round =>
    obtain ⟨k, q, hk, rfl, hwq, h1⟩ := hrel
    have H1 := Lib.hid h1
    have HQ := Lib.hid hwq
    clear h1
    by_cases hlt : k < n
    · obtain ⟨g, rfl, hcell⟩ := HB.out (by omega)
      have cm : wr.cell? ⟨g, k, none⟩ = some (.bool (l[k]?.getD true)) := by rw [hwq]; exact hcell _ hlt
      clear hcell hwq
      obtain ⟨y, hy⟩ : ∃ y, l[k]?.getD true = y := ⟨_, rfl⟩
      rw [hy] at cm
      have Y := Lib.hid hy
      clear hy
      cases y with
      | false =>
        go_wp2
        go_ret
        refine ⟨⟨k, rfl, iff_of_true (by omega) ?_⟩, q, (by first | rfl | exact HQ.out)⟩
        have e := Y.out
        rw [List.getElem?_eq_getElem (by omega)] at e
        have e : l[k] = false := e
        rw [← e]
        exact List.getElem_mem _
      | true =>
        go_wp2
        go_roundw
        case measure => simp [intOf]; omega
        case rel =>
          refine ⟨k + 1, q, by omega, by go_num, (by first | rfl | exact HQ.out), fun j hj => ?_⟩
          by_cases e : j = k
          · subst e; exact Y.out
          · exact H1.out j (by omega)
    · obtain rfl : k = n := by omega
      go_wp2
      go_ret
      refine ⟨⟨-1, rfl, iff_of_false (by omega) (fun hm => ?_)⟩, q, (by first | rfl | exact HQ.out)⟩
      obtain ⟨j, hj, e⟩ := List.mem_iff_getElem.1 hm
      have h2 := H1.out j (by omega)
      rw [List.getElem?_eq_getElem hj] at h2
      have h2 : l[j] = true := h2
      rw [h2] at e
      cases e
theorem containsB_any (A : Option Addr) (n c lo : Nat) (bs : List (Int × Bool)) (w : World) (hn : n ≤ 1048576) (hb : w.ownsRow lo 4 1 (.slice A n c) n (vbs bs)) :
    Calls Try.prog 35 #[.slice A n c, .bool false] w fun e w' => e = .returned (.bool (!bs.all (·.2))) ∧ ∃ q, w' = w.drewN q := by
  have hb2 : w.ownsRow lo 4 1 (.slice A n c) n ((bs.map (·.2)).map Value.bool) := by rw [List.map_map]; exact hb
  have hm : false ∈ bs.map (·.2) ↔ (bs.all (·.2)) = false := by
    rw [← Bool.not_eq_true, List.all_eq_true]
    constructor
    · intro h hall
      obtain ⟨x, hx, e⟩ := List.mem_map.1 h
      have := hall x hx
      rw [e] at this; cases this
    · intro h
      rcases Classical.em (false ∈ bs.map (·.2)) with h1 | h1
      · exact h1
      · exact absurd (fun x hx => by
          cases e : x.2 with
          | true => rfl
          | false => exact absurd (List.mem_map.2 ⟨x, hx, e⟩) h1) h
  have HM := Lib.hid hm
  clear hm hb
  go_enter Try.func35, Try.ntmps35
  go_wp2_with fail
  refine (indexB_any A n c lo _ w hn hb2).mono ?_
  rintro e w2 ⟨⟨k, rfl, hk⟩, q, rfl⟩
  have HK := Lib.hid hk
  clear hk hb2
  obtain ⟨r, hr⟩ : ∃ r, (bs.all (·.2)) = r := ⟨_, rfl⟩
  have HR := Lib.hid hr
  clear hr
  by_cases h0 : 0 ≤ k
  · have hd : decide (0 ≤ k) = true := decide_eq_true h0
    have he : r = false := by rw [← HR.out]; exact HM.out.1 (HK.out.1 h0)
    subst he
    go_wp2
    go_ret
    exact ⟨by rw [HR.out] <;> rfl, q, rfl⟩
  · have hd : decide (0 ≤ k) = false := decide_eq_false h0
    have he : r = true := by
      cases r with
      | true => rfl
      | false => exact absurd (HK.out.2 (HM.out.2 HR.out)) h0
    subst he
    go_wp2
    go_ret
    exact ⟨by rw [HR.out] <;> rfl, q, rfl⟩
end Go.Proofs.Ytopaobjpcafjlaa

-- ReachF: The program's way through the nodes that are reached.
namespace Go.Proofs.Ytopaobjpcafjlaa
set_option maxRecDepth 100000
set_option linter.unusedVariables false
set_option linter.unusedSimpArgs false
open Go.RowKit

/-- all flags are up. -/
def allB (bs : List (Int × Bool)) : Bool := bs.all (·.2)
theorem allB_ins (bs : List (Int × Bool)) (i : Nat) (q : Int × Bool) : allB (insP bs i q) = (allB bs && q.2) := by
  unfold allB insP
  conv => rhs; rw [← List.take_append_drop i bs]
  rw [List.all_append, List.all_append, List.all_cons]
  cases (List.take i bs).all (·.2) <;> cases (List.drop i bs).all (·.2) <;> cases q.2 <;> rfl
theorem kbs_ins (bs : List (Int × Bool)) (m : Int) (x : Bool) (h : RiseI (kbs bs)) (ht : hitI (kbs bs) m = false) : m ∉ kbs bs ∧ kbs (insP bs (lowI (kbs bs) m) (m, x)) = insI (kbs bs) m := by
  have hm : m ∉ kbs bs := fun hm => by rw [(hitI_mem _ _ h).2 hm] at ht; cases ht
  exact ⟨hm, by rw [← insP_low _ _ hm]; exact insP_map _ _ _ _⟩
theorem NV.kids {w : World} {B : Nat} {x : NV} (h : NodeIn w B x.v x.nd) : Kids w B x.Ak x.nk x.nd.kids := by
  obtain ⟨Ap, np, cp, Ak, nk, ck, e, _, _, _, _, h2⟩ := h
  unfold NV.v at e
  injection e with e
  simp at e
  obtain ⟨⟨e1, e2, e3⟩, e4, e5, e6⟩ := e
  rw [e4, e5]
  exact h2
/-- what stands under a name in the list is what stands there among the cells. -/
theorem NodesIs.hit {w : World} {lo : Nat} {R : SR} {ps : List (Int × NV)} {cs : List (Int × List Int)} (h : NodesIs w lo R ps cs) (hr : Right cs) {m : Int} {x : NV} {b : Bool} (hat : AtIs ps m x b) : HitIs cs m x.nd b ∧ Kids w w.heap.size x.Ak x.nk x.nd.kids := by
  have hf := h.find hr m
  rcases hat with ⟨ht, rfl, hi, he⟩ | ⟨ht, rfl, rfl⟩
  · obtain ⟨hi2, hfe⟩ := hf.1 ht
    refine ⟨.inl ⟨by omega, ?_⟩, NV.kids (h.sl.nodes (m, x) (by rw [← he]; exact List.getElem_mem hi))⟩
    have h1 := (h.at_ _ hi).2
    rw [List.getElem?_eq_getElem hi, he] at h1
    rw [hfe]
    exact h1
  · exact ⟨.inr ⟨hf.2 ht, rfl, rfl⟩, Kids.none_⟩
/-- how long the list is that stands in a box. -/
def cellLen (w : World) (g : Nat) : Nat := lenOf ((w.cell? ⟨g, 0, none⟩).getD (.int .i64 0))
theorem cellLen_is {w : World} {g : Nat} {t : TypeId} {R : SR} {n : Nat} (h : Box w g t #[R.kv n, R.vv n]) : cellLen w g = n := by
  unfold cellLen
  rw [h.cell 0]
  rfl
theorem SLB.base {w : World} {lo lo' : Nat} {R : SR} {bs : List (Int × Bool)} (h : SLB w lo R bs) (hl : lo' ≤ lo) : SLB w lo' R bs := by
  refine ⟨h.keys.base hl, ⟨h.vals.1, ?_⟩, h.rise, h.len⟩
  rcases h.vals.2 with h | ⟨g, cap, cur, hv, hg, r⟩
  · exact .inl h
  · exact .inr ⟨g, cap, cur, hv, Nat.le_trans hl hg, r⟩
set_option maxHeartbeats 4000000 in
theorem reachedFrom_any (lo0 : Nat) (R : SR) (ps : List (Int × NV)) (cs : List (Int × List Int)) (Ar : Option Addr) (nr cr : Nat) (roots : List Int) (B : Nat) (w : World) (hD : NodesIs w lo0 R ps cs) (hR : Right cs) (hnr : nr ≤ 80) (hcr : nr ≤ cr) (hAr : Ar = none → cr = 0) (hB : B ≤ w.heap.size) (hbr : Ints w B Ar nr roots) :
    Calls Try.prog 19 #[.agg #[R.kv ps.length, R.vv ps.length], .slice Ar nr cr] w fun e w' => ∃ A n c l b, e = .returned (.tuple #[.slice A n c, .bool b]) ∧ Going cs roots l [] b ∧ OwnI w' w.heap.size A n c l ∧ Below w.heap.size w w' := by
  have HD := Lib.hid hD
  have RT := Lib.hid hR
  have hlr := hbr.1
  have hcs : cs.length ≤ 80 := hR.1
  obtain ⟨i0, hi, hz0, hz1, hz2⟩ := info_parts Try.infoI
  have HI := Lib.hid hi
  have HZ0 := Lib.hid hz0
  have HZ1 := Lib.hid hz1
  have HZ2 := Lib.hid hz2
  clear hi hz0 hz1 hz2
  obtain ⟨w0, hw0⟩ : ∃ w0, (w.alloc (.cells #[R.kv ps.length, R.vv ps.length] 44)).alloc (.cells #[.slice none 0 0, .slice none 0 0] 66) = w0 := ⟨_, rfl⟩
  have N0 := Lib.hid (show Box w0 w.heap.size 44 #[R.kv ps.length, R.vv ps.length] from hw0 ▸ heap2_0 _ _ _)
  have P0 := Lib.hid (show Box w0 (w.heap.size + 1) 66 #[.slice none 0 0, .slice none 0 0] from hw0 ▸ heap2_1 _ _ _)
  have s0 : w0.heap.size = w.heap.size + 2 := hw0 ▸ size2 _ _ _
  have B0 := Lib.hid (show Below w.heap.size w w0 from hw0 ▸ below2 _ _ _)
  have HBR := Lib.hid ((hbr.more hB).below B0.out)
  clear hD hR hbr
  go_enter Try.func19, Try.ntmps19
  go_wp2_with fail
  clear hw0
  refine (clone_any Ar nr cr roots w.heap.size w0 (by omega) (by omega) HBR.out).mono ?_
  rintro e w2 ⟨A2, n2, c2, rfl, o2, b2⟩
  have hn2 := o2.len
  have s2 := b2.size
  have O2 := Lib.hid o2
  have N2 := Lib.hid (N0.out.below b2 (by omega))
  have P2 := Lib.hid (P0.out.below b2 (by omega))
  have B2 := Lib.hid (B0.out.trans (b2.mono (by omega)))
  clear o2 b2
  go_wp2
  go_loopw [7] (fun t wr => ∃ (At : Option Addr) (nt ct : Nat) (R' : SR) (bs : List (Int × Bool)) (todo : List Int), t = .slice At nt ct ∧ OwnI wr (w.heap.size + 2) At nt ct todo ∧ Box wr (w.heap.size + 1) 66 #[R'.kv bs.length, R'.vv bs.length] ∧ SLB wr (w.heap.size + 2) R' bs ∧
      Box wr w.heap.size 44 #[R.kv ps.length, R.vv ps.length] ∧ (∀ g, (Value.slice At nt ct).ownBlock = some g → ¬ R'.at_ g) ∧ Going cs roots (kbs bs) todo (allB bs) ∧ nt + 17 * (1360 - bs.length) ≤ 23200 ∧ Below w.heap.size w wr)
    (fun t wr => lenOf t + 17 * (1360 - cellLen wr (w.heap.size + 1)))
  case atStart =>
    exact ⟨A2, n2, c2, SR0, [], roots, rfl, by rw [← s0]; exact O2.out, P2.out, SLB.nil _ _, N2.out, (fun g hg h => by rcases h with ⟨a, ha, _⟩ | ⟨a, ha, _⟩ <;> cases ha), Going.start cs roots, by simp; omega, B2.out⟩
  case round =>
    obtain ⟨At, nt, ct, R', bs, todo, rfl, hot, hpb, hsb, hnb, hap, hgo, hbd, hbel⟩ := hrel
    have hlt := hot.len
    have hgl := hgo.len
    rw [kbs_len] at hgl
    have hs0 := hbel.size
    have hcl := cellLen_is hpb
    have hp1 := hpb.lt
    have TR := Lib.hid hot
    have PB := Lib.hid hpb
    have SB := Lib.hid hsb
    have NB := Lib.hid hnb
    have AP := Lib.hid hap
    have GR := Lib.hid hgo
    have BR := Lib.hid hbel
    have CL := Lib.hid hcl
    clear hot hpb hsb hnb hap hgo hbel hcl
    by_cases h0 : nt = 0
    · obtain rfl := h0
      obtain rfl : todo = [] := List.eq_nil_of_length_eq_zero hlt
      have p0 := PB.out.cell 0
      have p1 := PB.out.cell 1
      unfold SR.kv at p0
      unfold SR.vv at p1
      simp at p0 p1
      have hpl := PB.out.lt
      have hcl : ∀ W, Below wr.heap.size wr W → W.cell? ⟨w.heap.size + 1, 0, none⟩ = some (.slice R'.Ak bs.length R'.ck) ∧ W.cell? ⟨w.heap.size + 1, 1, none⟩ = some (.slice R'.Av bs.length R'.cv) := fun W hW => ⟨(hW.cell (p := ⟨w.heap.size + 1, 0, none⟩) hpl).trans p0, (hW.cell (p := ⟨w.heap.size + 1, 1, none⟩) hpl).trans p1⟩
      have hc0 : ∀ W, Below wr.heap.size wr W → W.cell? ⟨w.heap.size + 1, 0, none⟩ = some (.slice R'.Ak bs.length R'.ck) := fun W hW => (hcl W hW).1
      have hc1 : ∀ W, Below wr.heap.size wr W → W.cell? ⟨w.heap.size + 1, 1, none⟩ = some (.slice R'.Av bs.length R'.cv) := fun W hW => (hcl W hW).2
      have hbl := SB.out.len
      have hcb : ∀ W, Below wr.heap.size wr W → Calls Try.prog 35 #[.slice R'.Av bs.length R'.cv, .bool false] W fun e w' => e = .returned (.bool (!allB bs)) ∧ Below wr.heap.size wr w' :=
        fun W hW => (containsB_any R'.Av bs.length R'.cv (w.heap.size + 2) bs W (by omega) ((SB.out.below hW).vals)).mono (fun e w' h => ⟨h.1, by obtain ⟨q, e⟩ := h.2; rw [e]; exact below_drewN hW q⟩)
      have CB := Lib.hid hcb
      clear hcl hcb p0 p1
      go_wp2
      go_region_held3 (fun W => Below wr.heap.size wr W) (first | exact (Below.refl _ _).drew | assumption)
        (first | (go_at_call 35
                  refine (CB.out _ (by assumption)).mono ?_
                  rintro e w5 ⟨rfl, h5⟩))
      all_goals
        clear hc0 hc1
        obtain ⟨fl, hfl⟩ : ∃ fl, allB bs = fl := ⟨_, rfl⟩
        have FL := Lib.hid hfl
        rw [hfl]
        clear hfl
        go_wp2
        go_ret2
        refine ⟨_, _, _, kbs bs, fl, rfl, FL.out ▸ GR.out, ?_, BR.out.trans (h5.mono hs0)⟩
        exact ((SB.out.below h5).base (show w.heap.size ≤ w.heap.size + 2 by omega)).keys
    · obtain ⟨q, rfl⟩ : ∃ q, nt = q + 1 := ⟨nt - 1, by omega⟩
      obtain ⟨gt, hgt, hgt1, hgt2⟩ := TR.out.form (by omega)
      subst hgt
      have hq0 := TR.out.cell (k := q) (by omega)
      have hlast := TR.out.last
      obtain ⟨m, hmq⟩ : ∃ m, todo[q]?.getD 0 = m := ⟨_, rfl⟩
      rw [hmq] at hq0 hlast
      have G1 := GR.out
      rw [hlast] at G1
      have GR := Lib.hid G1
      have hct := TR.out.cap
      have T1 := Lib.hid TR.out.short
      have hgr : ¬ R'.at_ gt := AP.out gt rfl
      have HGR := Lib.hid hgr
      clear G1 TR hlast hmq AP hgr
      generalize todo.take q = td at T1 GR
      have hd : decide ((0 : Int) < ((q + 1 : Nat) : Int)) = true := decide_eq_true (by omega)
      have hwk : IntKind.i64.wrap (((q + 1 : Nat) : Int) - 1) = (q : Int) := by rw [IntKind.wrap_i64]; omega
      by_cases hm0 : m = 0
      · have hb0 : (m == 0) = true := by simp [hm0]
        go_wp2
        go_roundw
        case rel => exact ⟨some ⟨gt, 0, none⟩, q, ct, R', bs, td, rfl, T1.out, PB.out, SB.out, NB.out, (fun g hg => by simp [Value.ownBlock] at hg; subst hg; exact HGR.out), GR.out.skip (.inl hm0), by omega, BR.out⟩
        case measure => rw [CL.out]; simp [lenOf]
      · have hb0 : (m == 0) = false := by simpa using hm0
        have HM0 := Lib.hid hm0
        clear hm0
        go_wp2_with fail
        refine (at_any w.heap.size lo0 R ps m wr NB.out (HD.out.below BR.out).sl).mono ?_
        rintro e w4 ⟨x, r, rfl, hat, b4⟩
        have hs4 := b4.size
        have hit := (HD.out.below BR.out).hit RT.out hat
        have h16 := hit_kids hit.1
        have HIT := Lib.hid hit.1
        have hatx : Kids w w.heap.size x.Ak x.nk x.nd.kids := (HD.out.hit RT.out hat).2
        have KX := Lib.hid hatx
        have hkl := hatx.1
        have T4 := Lib.hid (T1.out.below b4)
        have P4 := Lib.hid (PB.out.below b4 (by omega))
        have S4 := Lib.hid (SB.out.below b4)
        have N4 := Lib.hid (NB.out.below b4 (by omega))
        have B4 := Lib.hid (BR.out.trans (b4.mono hs0))
        have RL := Lib.hid (fun g hg => (SB.out.lt g hg).2)
        clear hat hit hatx b4
        obtain ⟨Ap, np, cp, Ak, nk, ck, nd⟩ := x
        simp only at h16 KX HIT hkl
        unfold NV.v
        obtain ⟨w5, hw5⟩ : ∃ w5, w4.alloc (.cells #[.int .i64 nd.kind, .slice Ap np cp, .slice Ak nk ck, .string nd.val] 52) = w5 := ⟨_, rfl⟩
        have b5 : Below w4.heap.size w4 w5 := hw5 ▸ (Below.refl _ _).alloc (Nat.le_refl _) _
        have X5 := Lib.hid (show Box w5 w4.heap.size 52 #[.int .i64 nd.kind, .slice Ap np cp, .slice Ak nk ck, .string nd.val] from hw5 ▸ heap_alloc_new _ _)
        have s5 : w5.heap.size = w4.heap.size + 1 := hw5 ▸ by simp
        have T5 := Lib.hid (T4.out.below b5)
        have P5 := Lib.hid (P4.out.below b5 (by omega))
        have S5 := Lib.hid (S4.out.below b5)
        have N5 := Lib.hid (N4.out.below b5 (by omega))
        have B5 := Lib.hid (B4.out.trans (b5.mono (by omega)))
        clear b5
        go_wp2_with fail
        clear hw5
        refine (putB_any (w.heap.size + 1) (w.heap.size + 2) R' bs m r w5 P5.out S5.out (by omega) (by omega)).mono ?_
        rintro e w6 (⟨h6, rfl, b6⟩ | ⟨h6, rfl, R6, p6, l6, f6, t6⟩)
        · have hin : m ∈ kbs bs := (hitI_mem _ _ SB.out.rise).1 h6
          have HIN := Lib.hid hin
          have hs6 := b6.size
          have T6 := Lib.hid (T5.out.below b6)
          have P6 := Lib.hid (P5.out.below b6 (by omega))
          have S6 := Lib.hid (S5.out.below b6)
          have N6 := Lib.hid (N5.out.below b6 (by omega))
          have B6 := Lib.hid (B5.out.trans (b6.mono (by omega)))
          have C6 := Lib.hid (cellLen_is P6.out)
          clear hin h6 b6
          go_wp2
          go_roundw
          case rel => exact ⟨some ⟨gt, 0, none⟩, q, ct, R', bs, td, rfl, T6.out, P6.out, S6.out, N6.out, (fun g hg => by simp [Value.ownBlock] at hg; subst hg; exact HGR.out), GR.out.skip (.inr HIN.out), by omega, B6.out⟩
          case measure => rw [CL.out, C6.out]; simp [lenOf]
        · have hki := kbs_ins bs m r SB.out.rise h6
          have gt6 := GR.out.take RT.out HM0.out hki.1 HIT.out
          have hs6 := t6.size
          have hgn : ∀ g, g < w5.heap.size → ¬ R'.at_ g → g ≠ w.heap.size + 1 → w6.heap[g]? = w5.heap[g]? := fun g h1 h2 h3 => t6.block g h1 (fun e => e.elim h3 h2)
          have hno : ∀ g, g < w.heap.size + 2 ∨ wr.heap.size ≤ g → ¬ R'.at_ g := fun g h1 h2 => by
            have h3 := RL.out g h2
            have h4 := (SB.out.lt g h2).1
            omega
          have X6 := Lib.hid (show Box w6 w4.heap.size _ _ from (hgn _ (by omega) (hno _ (by omega)) (by omega)).trans X5.out)
          have N6 := Lib.hid (show Box w6 w.heap.size _ _ from (hgn _ (by omega) (hno _ (by omega)) (by omega)).trans N5.out)
          have T6 := Lib.hid (T5.out.touch t6 (fun g hg e => by simp [Value.ownBlock] at hg; subst hg; exact e.elim (fun e => by omega) HGR.out))
          have B6 := Lib.hid (B5.out.trans (t6.below (by omega) (fun k hk e => e.elim (fun e => by omega) (fun e => hno k (by omega) e))))
          have P6 := Lib.hid p6
          have L6 := Lib.hid l6
          have hgr6 : ¬ R6.at_ gt := fun e => (f6 gt e).elim HGR.out (fun e => by omega)
          have HG6 := Lib.hid hgr6
          have RL6 := Lib.hid (fun g hg => (l6.lt g hg).2)
          have hl6 : (insP bs (lowI (kbs bs) m) (m, r)).length = bs.length + 1 := insP_len _ _ _ (lowB_len bs m)
          rw [← hl6] at p6
          have C6 := Lib.hid (cellLen_is p6)
          have hgl6 := gt6.len
          rw [insI_len, kbs_len] at hgl6
          rw [← hki.2, show (allB bs && r) = allB (insP bs (lowI (kbs bs) m) (m, r)) from (allB_ins bs (lowI (kbs bs) m) (m, r)).symm] at gt6
          have GT := Lib.hid gt6
          have P6 := Lib.hid p6
          have q62 := X6.out.cell 2
          simp at q62
          have hx6 := X6.out.lt
          generalize insP bs (lowI (kbs bs) m) (m, r) = bs6 at hl6 L6 GT C6 P6 RL6
          clear hki gt6 hgn hno p6 l6 f6 t6 hgr6 h6
          go_wp2
          go_loopw [7, 43] (fun t i wr => ∃ (k gk ck' : Nat), k ≤ nk ∧ i = .int .i64 k ∧ t = .slice (some ⟨gk, 0, none⟩) (q + k) ck' ∧ (gk = gt ∨ w6.heap.size ≤ gk) ∧ OwnI wr (w.heap.size + 2) (some ⟨gk, 0, none⟩) (q + k) ck' (td ++ (nd.kids.take k).map (·.2)) ∧ Touch (fun b => b = gt ∨ w6.heap.size ≤ b) w6 wr) (fun _ i _ => nk - (intOf i).toNat)
          case atStart => exact ⟨0, gt, ct, Nat.zero_le _, rfl, rfl, .inl rfl, by simpa using T6.out, Touch.of_below (Below.refl _ _)⟩
          case round =>
            obtain ⟨k, gk, ck', hkn, rfl, rfl, hgk, htk, htt⟩ := hrel
            have TK := Lib.hid htk
            have TT := Lib.hid htt
            have hsv : w6.heap.size ≤ wr.heap.size := htt.size
            have bv := B6.out.trans (htt.below (show w.heap.size ≤ w6.heap.size by omega) (fun b hb e => by rcases e with e | e <;> omega))
            have BV := Lib.hid bv
            have KV := Lib.hid (KX.out.below bv)
            clear htk htt bv q62
            by_cases hlk : k < nk
            · obtain ⟨bk, off, rfl, hbk, hk0, hk1⟩ := KV.out.at_ hlk
              have hst : (nd.kids.take (k + 1)).map (·.2) = (nd.kids.take k).map (·.2) ++ [(nd.kids[k]?.getD (0, 0)).2] := by
                rw [List.take_succ_eq_append_getElem (by omega), List.map_append, List.getElem?_eq_getElem (by omega)]; rfl
              have HST := Lib.hid hst
              obtain ⟨L, hL⟩ : ∃ L, td ++ (nd.kids.take k).map (·.2) = L := ⟨_, rfl⟩
              have TK := TK.out
              rw [hL] at TK
              have TK := Lib.hid TK
              have HL := Lib.hid hL
              clear hst hL
              generalize (nd.kids[k]?.getD (0, 0)).1 = y at hk0
              generalize (nd.kids[k]?.getD (0, 0)).2 = z at hk1 HST
              obtain ⟨w1, hw1⟩ : ∃ w1, wr.alloc (.cells #[.int .i64 y, .int .i64 z] 60) = w1 := ⟨_, rfl⟩
              have b1 : Below wr.heap.size wr w1 := hw1 ▸ (Below.refl _ _).alloc (Nat.le_refl _) _
              have C1 := Lib.hid (show Box w1 wr.heap.size 60 #[.int .i64 y, .int .i64 z] from hw1 ▸ heap_alloc_new _ _)
              have s1 : w1.heap.size = wr.heap.size + 1 := hw1 ▸ by simp
              have b12 : Below wr.heap.size wr (w1.alloc (.cells #[.int .i64 z] 2)) := b1.trans (((Below.refl w1.heap.size w1).alloc (Nat.le_refl _) _).mono (by omega))
              have BB := Lib.hid b12
              have c11 := C1.out.cell 1
              simp at c11
              clear b1 b12
              go_wp2_with (at_builtin; (refine wpList_append_lies _ rfl _ _ 23 rfl (w.heap.size + 2) 2 i0 (.int .i64 0) 1 8 Try.underlying23 HI.out HZ0.out HZ1.out HZ2.out rfl (by decide) (.slice (some ⟨gk, 0, none⟩) (q + k) ck') (q + k) (L.map (Value.int .i64)) (by simp [Act.eval]) (own_touch (S := fun _ => False) TK.out (Touch.of_below BB.out) (fun _ _ h => h)) ⟨w1.heap.size, 0, none⟩ 1 1 [.int .i64 z] (by simp [Act.eval]) rfl ?bq1 ?bq2 (by omega) ?bq3 ?bq4 ?bq5 _ rfl ?_))
              case bq2 => first | rfl | (intro u hu; simp at hu; subst hu; rfl)
              case bq3 => unfold maxLen; omega
              case bq4 => omega
              case bq5 => first | omega | (simp; omega)
              intro g7 c7 w7 hown7 hgrow7 hor7 _
              have t7 : Touch (fun b => b = gt ∨ w6.heap.size ≤ b) wr w7 := (Touch.of_below BB.out).trans ((Touch.of_grown hgrow7).mono (fun b e => by simp [Value.ownBlock] at e; omega))
              have h7 : g7 = gt ∨ w6.heap.size ≤ g7 := by
                rcases hor7 with e | e <;> (try simp [Value.ownBlock] at e) <;> omega
              have o7 : OwnI w7 (w.heap.size + 2) (some ⟨g7, 0, none⟩) (q + (k + 1)) c7 (td ++ (nd.kids.take (k + 1)).map (·.2)) := by
                rw [HST.out, ← List.append_assoc, HL.out]
                unfold OwnI
                rw [List.map_append]
                exact hown7
              have O7 := Lib.hid o7
              have T7 := Lib.hid (TT.out.trans t7)
              have H7 := Lib.hid h7
              clear hown7 hgrow7 hor7 t7 o7 h7 hk0 hk1 c11 hw1
              go_wp2
              go_roundw
              case rel => exact ⟨k + 1, g7, c7, by omega, by go_num, rfl, H7.out, O7.out, T7.out⟩
              case measure => simp [intOf]; omega
            · obtain rfl : k = nk := by omega
              have tk8 := TK.out
              rw [List.take_of_length_le (by omega)] at tk8
              have T8 := Lib.hid tk8
              have hgn : ∀ g, g < w6.heap.size → g ≠ gt → wr.heap[g]? = w6.heap[g]? := fun g h1 h2 => TT.out.block g h1 (fun e => by rcases e with e | e <;> omega)
              have P8 := Lib.hid (show Box wr (w.heap.size + 1) _ _ from (hgn _ (by omega) (by omega)).trans P6.out)
              have N8 := Lib.hid (show Box wr w.heap.size _ _ from (hgn _ (by omega) (by omega)).trans N6.out)
              have L8 := Lib.hid (L6.out.touch TT.out (fun g hg e => by
                rcases e with e | e
                · subst e; exact HG6.out hg
                · have := RL6.out g hg; omega))
              have C8 := Lib.hid (cellLen_is P8.out)
              clear tk8 hgn
              go_wp2
              go_roundw
              case rel =>
                exact ⟨some ⟨gk, 0, none⟩, q + k, ck', R6, bs6, td ++ nd.kids.map (·.2), rfl, T8.out, P8.out, L8.out, N8.out, (fun g hg e => by
                  simp [Value.ownBlock] at hg
                  subst hg
                  rcases hgk with e2 | e2
                  · subst e2; exact HG6.out e
                  · have := RL6.out _ e; omega), GT.out, by omega, BV.out⟩
              case measure => rw [CL.out, C8.out]; simp [lenOf]; omega
end Go.Proofs.Ytopaobjpcafjlaa

-- ReachP: The program's ReachOf: for all cells and roots.
namespace Go.Proofs.Ytopaobjpcafjlaa
set_option maxRecDepth 100000
set_option linter.unusedVariables false
set_option linter.unusedSimpArgs false
open Go.RowKit

set_option maxHeartbeats 4000000 in
theorem implReachOf_any (A : Option Addr) (n c : Nat) (cs : List (Int × List Int)) (Ar : Option Addr) (nr cr : Nat) (roots : List Int) (B : Nat) (w : World) (hn : n ≤ 1048576) (hc : n ≤ c) (hA : A = none → c = 0) (hnr : nr ≤ 1048576) (hcr : nr ≤ cr) (hAr : Ar = none → cr = 0) (hm : ∀ i, (cel cs i).2.length ≤ 1048576) (hB : B ≤ w.heap.size) (hb : Cells w B A n cs) (hbr : Ints w B Ar nr roots) :
    Calls Try.prog 8 #[.slice A n c, .slice Ar nr cr] w fun e w' => ∃ A' n' c' l b, e = .returned (.tuple #[.slice A' n' c', .bool b]) ∧ ReachIs cs roots l b ∧ OwnI w' w.heap.size A' n' c' l ∧ Below w.heap.size w w' := by
  have HB := Lib.hid hb
  have HBR := Lib.hid hbr
  have hlr := hbr.1
  clear hb hbr
  go_enter Try.func8, Try.ntmps8
  go_wp2_with fail
  refine (nodesOf_any A n c cs B w hn hc hA hm hB HB.out).mono ?_
  rintro e w2 ⟨R, ps, b, rfl, b2, hor⟩
  have s2 := b2.size
  have B2 := Lib.hid b2
  have hbr2 := HBR.out.below (b2.mono hB)
  have HBR := Lib.hid hbr2
  clear hbr2 b2
  rcases hor with ⟨rfl, hR, hnd⟩ | ⟨rfl, hno, hR0, hp0⟩
  · obtain ⟨w3, hw3⟩ : ∃ w3, w2.alloc (.cells #[R.kv ps.length, R.vv ps.length] 44) = w3 := ⟨_, rfl⟩
    have b3 : Below w2.heap.size w2 w3 := hw3 ▸ (Below.refl _ _).alloc (Nat.le_refl _) _
    have P3 := Lib.hid (show Box w3 w2.heap.size 44 #[R.kv ps.length, R.vv ps.length] from hw3 ▸ heap_alloc_new _ _)
    have s3 : w3.heap.size = w2.heap.size + 1 := hw3 ▸ by simp
    have B3 := Lib.hid (B2.out.trans (b3.mono (by omega)))
    unfold SR.kv SR.vv at hw3
    have D3 := Lib.hid (hnd.below b3)
    have RT := Lib.hid hR
    have p0 := P3.out.cell 0
    have p1 := P3.out.cell 1
    unfold SR.kv at p0
    unfold SR.vv at p1
    simp at p0 p1
    have HBR := Lib.hid (HBR.out.below (b3.mono (show B ≤ w2.heap.size by omega)))
    clear hnd hR b3
    by_cases h80 : nr ≤ 80
    · have hd : decide ((80 : Int) < (nr : Int)) = false := decide_eq_false (by omega)
      unfold SR.kv SR.vv
      go_wp2_with fail
      clear hw3 p0 p1
      refine (reachedFrom_any w.heap.size R ps cs Ar nr cr roots B w3 D3.out RT.out h80 hcr hAr (by omega) HBR.out).mono ?_
      rintro e w4 ⟨A', n', c', l, b, rfl, hgo, ho, b4⟩
      have GO := Lib.hid hgo
      have O4 := Lib.hid ho
      have B4 := Lib.hid (B3.out.trans (b4.mono (by omega)))
      clear hgo ho b4
      go_wp2
      go_ret2
      exact ⟨_, _, _, l, b, rfl, .inr ⟨⟨RT.out, by omega⟩, GO.out.rise, GO.out.done, GO.out.whole⟩, O4.out.base (by omega), B4.out⟩
    · have hd : decide ((80 : Int) < (nr : Int)) = true := decide_eq_true (by omega)
      unfold SR.kv SR.vv
      go_wp2
      go_ret2
      exact ⟨none, 0, 0, [], false, rfl, .inl ⟨fun h => absurd h.2 (by omega), rfl, rfl⟩, OwnI.nil _ _, B3.out⟩
  · subst hR0
    subst hp0
    unfold SR.kv SR.vv
    simp only [SR0, List.length_nil]
    go_wp2
    go_ret2
    exact ⟨none, 0, 0, [], false, rfl, .inl ⟨fun h => hno h.1, rfl, rfl⟩, OwnI.nil _ _, B2.out.trans (((Below.refl _ _).alloc (Nat.le_refl _) _).mono s2)⟩
end Go.Proofs.Ytopaobjpcafjlaa
