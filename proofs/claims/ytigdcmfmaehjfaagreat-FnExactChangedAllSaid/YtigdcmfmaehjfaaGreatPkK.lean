/- Several texts in one, in build order: ChgAO, ChgAP, ChsL, ChgAZ, OwnP. -/
import Derived.Test.YtigdcmfmaehjfaaGreatPkJ
import Derived.Deep.AppendLies
import Derived.Deep.RegionLaw
import Derived.StillTailTactics
-- ChgAO: The model's change of a base: one step.
namespace Go.Proofs.YtigdcmfmaehjfaaGreat
set_option maxRecDepth 20000
set_option linter.unusedVariables false
set_option linter.unusedSimpArgs false
open Go.RowKit

theorem box_notC {w : World} {g : Nat} {cs : Array Value} (h : Box w g 30 cs) : ¬ KindC w g := by
  rintro ⟨cur, t, e, ht⟩
  have h : w.heap[g]? = some (.cells cs 30 (0, 0)) := h
  rw [h] at e
  injection e with e
  injection e with _ e
  rcases ht with ht | ht
  · rw [ht] at e; exact absurd e (by decide)
  · rw [ht] at e; exact absurd e (by decide)
theorem box_notI {w : World} {g lo n c : Nat} {A : Option Addr} {xs : List Int} {cs : Array Value} (h : Box w g 30 cs) (ho : OwnI w lo A n c xs) : (Value.slice A n c).ownBlock ≠ some g := by
  intro hg
  obtain ⟨cur, e⟩ := row_kind ho hg
  have h : w.heap[g]? = some (.cells cs 30 (0, 0)) := h
  rw [h] at e
  injection e with e
  injection e with _ e
  exact absurd e (by decide)
theorem OwnC.boxed {w w' : World} {q lo hi n c : Nat} {A : Option Addr} {l : List (Int × List Int)} {cs : Array Value} (h : OwnC w lo hi A n c l) (hx : Box w q 30 cs) (t : Touch (fun k => k = q) w w') : OwnC w' lo hi A n c l :=
  h.touchK t (fun b hk e => box_notC hx (e ▸ hk))
theorem OwnI.boxed {w w' : World} {q lo n c : Nat} {A : Option Addr} {l : List Int} {cs : Array Value} (h : OwnI w lo A n c l) (hx : Box w q 30 cs) (t : Touch (fun k => k = q) w w') : OwnI w' lo A n c l :=
  h.touch t (fun g hg e => box_notI hx h (e ▸ hg))
theorem OwnBK.boxed {w w' : World} {q lo : Nat} {L : BLay} {b : MBase} {cs : Array Value} (h : OwnBK w lo L b) (hx : Box w q 30 cs) (t : Touch (fun k => k = q) w w') : OwnBK w' lo L b :=
  ⟨(h.cells.boxed hx t).more t.size, h.pins.boxed hx t, h.grey.boxed hx t, h.black.boxed hx t, h.pg, h.pb, h.gb⟩
theorem l4AddL_any (g n c lo hi : Nat) (cs : List (Int × List Int)) (m : Int) (A' : Option Addr) (n' c' : Nat) (bs : List Int) (w : World) (hn : n ≤ 1048575) (ho : OwnC w lo hi (some ⟨g, 0, none⟩) n c cs) (hhi : hi ≤ w.heap.size)
    (hx : Mine w lo A' n' c' bs) (hxb : ∀ b, (Value.slice A' n' c').ownBlock = some b → hi ≤ b) (hR : Rise cs) :
    Calls Tryz.prog 118 #[.slice (some ⟨g, 0, none⟩) n c, .agg #[.int .i64 m, .slice A' n' c']] w fun e w' => ∃ g2 n2 c2, e = .returned (.slice (some ⟨g2, 0, none⟩) n2 c2) ∧ OwnC w' lo w'.heap.size (some ⟨g2, 0, none⟩) n2 c2 (addL cs m bs) ∧ Below w.heap.size w w' := by
  have hlen := ho.len
  refine (l4Add_any g n c lo hi cs m A' n' c' bs w hn ho hhi hx hxb hR).mono ?_
  rintro e w' ⟨b, h⟩
  rcases h with ⟨h, rfl⟩ | ⟨h, g', c2, rfl, o⟩
  · have e : addL cs m bs = cs := if_pos (by omega)
    exact ⟨g, n, c, rfl, by rw [e]; exact (ho.below (b.mono hhi)).more (Nat.le_trans hhi b.size), b⟩
  · have e : addL cs m bs = insC cs m bs := if_neg (by omega)
    exact ⟨g', n + 1, c2, rfl, by rw [e]; exact o, b⟩
def GaveMid (lo : Nat) (L0 : BLay) (w : World) (b : MBase) (e : Ending) (w' : World) : Prop := ∃ L, e = .returned (BLay.v L b) ∧ Solid L ∧ OwnBK w' lo L b ∧ Touch (fun g => (Value.slice L0.Ag L0.ng L0.cg).ownBlock = some g ∨ w.heap.size ≤ g) w w'
set_option maxHeartbeats 3200000 in
theorem l13Change_any (L : BLay) (b : MBase) (x : MChg) (A : Option Addr) (n c lo B k : Nat) (w : World) (hL : Solid L) (hO : OwnBK w lo L b) (hmid : MidOk k b) (hk : k ≤ 200) (hx : ChgOk x) (hn : n ≤ 1048576) (hlo : lo ≤ w.heap.size) (hBl : B ≤ lo) (hb : Byts w B A n x.bytes) :
    Calls Tryz.prog 79 #[L.v b, .agg #[.int .i64 x.kind, .int .i64 x.name, .slice A n c]] w (GaveMid lo L w (changeOne b x)) := by
  obtain ⟨g0, n0, c0, g1, np, cp, g2, ng, cg, g3, nb, cb, rfl⟩ := hL
  obtain ⟨cs, head, pins, phase, grey, black, cursor⟩ := b
  obtain ⟨xk, xm, xb⟩ := x
  have hkind : xk = 1 ∨ xk = 2 ∨ xk = 3 ∨ xk = 4 ∨ xk = 5 ∨ xk = 6 ∨ xk = 7 ∨ xk = 8 ∨ xk = 9 ∨ xk = 10 ∨ xk = 11 := by
    rcases hx with ⟨h1, h2, h3, _⟩ | ⟨h1, _⟩
    · simp only at h1 h2 h3; omega
    · simp only at h1; omega
  obtain ⟨w3, hw3⟩ : ∃ w3, (((w.alloc (.cells #[.slice (some ⟨g0, 0, none⟩) n0 c0, .int .i64 head, .slice (some ⟨g1, 0, none⟩) np cp, .int .i64 phase, .slice (some ⟨g2, 0, none⟩) ng cg, .slice (some ⟨g3, 0, none⟩) nb cb, .int .i64 cursor] 30)).alloc (.cells #[.int .i64 xk, .int .i64 xm, .slice A n c] 75)).alloc (.cells #[.slice none 0 0, .int .i64 0, .slice none 0 0, .int .i64 0, .slice none 0 0, .slice none 0 0, .int .i64 0] 30)) = w3 := ⟨_, rfl⟩
  have x0 : Box w3 w.heap.size _ _ := hw3 ▸ heap3_0 _ _ _ _
  have xc : Box w3 (w.heap.size + 1) _ _ := hw3 ▸ heap3_1 _ _ _ _
  have x1 : Box w3 (w.heap.size + 1 + 1) _ _ := hw3 ▸ heap3_2 _ _ _ _
  have s3 : w3.heap.size = w.heap.size + 3 := hw3 ▸ size3 _ _ _ _
  have b3 : Below w.heap.size w w3 := hw3 ▸ below3 _ _ _ _
  have X0 := Lib.hid x0
  have XC := Lib.hid xc
  have X1 := Lib.hid x1
  have B3 := Lib.hid (Touch.of_below (S := fun g => g2 = g ∨ w.heap.size ≤ g) b3)
  have O3 := Lib.hid (hO.below b3)
  have HB := Lib.hid (hb.below (b3.mono (by omega)))
  obtain ⟨m1, m2, m3, m4, m5, m6, m7, m8⟩ := hmid
  simp only at m1 m2 m3 m4 m5 m6 m7 m8
  have M1 := Lib.hid m1
  have M3 := Lib.hid m3
  have M4 := Lib.hid m4
  have hl0 : cs.length = n0 := hO.cells.len
  have hl1 : pins.length = np := hO.pins.len
  have hl2 : grey.length = ng := hO.grey.len
  have hl3 : black.length = nb := hO.black.len
  have hcap1 : np ≤ cp := hO.pins.cap_
  have hcap3 : nb ≤ cb := hO.black.cap_
  have G1 := Lib.hid (show lo ≤ g1 ∧ g1 < w.heap.size from World.ownsRow.lt hO.pins g1 (by simp [Lay4, Value.ownBlock]))
  have G2 := Lib.hid (show lo ≤ g2 ∧ g2 < w.heap.size from World.ownsRow.lt hO.grey g2 (by simp [Lay4, Value.ownBlock]))
  have G3 := Lib.hid (show lo ≤ g3 ∧ g3 < w.heap.size from World.ownsRow.lt hO.black g3 (by simp [Lay4, Value.ownBlock]))
  have N12 := Lib.hid (show g1 ≠ g2 from fun e => hO.pg g1 (by simp [Lay4, Value.ownBlock]) (by simp [Lay4, Value.ownBlock, e]))
  have N13 := Lib.hid (show g1 ≠ g3 from fun e => hO.pb g1 (by simp [Lay4, Value.ownBlock]) (by simp [Lay4, Value.ownBlock, e]))
  have N23 := Lib.hid (show g2 ≠ g3 from fun e => hO.gb g2 (by simp [Lay4, Value.ownBlock]) (by simp [Lay4, Value.ownBlock, e]))
  have p0 := x0.cell 0
  have p1 := x0.cell 1
  have p2 := x0.cell 2
  have p3 := x0.cell 3
  have p4 := x0.cell 4
  have p5 := x0.cell 5
  have p6 := x0.cell 6
  have f0 := x0.free
  have y0 := xc.cell 0
  have y1 := xc.cell 1
  have y2 := xc.cell 2
  simp at p0 p1 p2 p3 p4 p5 p6 y0 y1 y2
  clear hO b3 hb x0 xc x1
  unfold BLay.v Lay4
  simp only
  rcases hkind with rfl | rfl | rfl | rfl | rfl | rfl | rfl | rfl | rfl | rfl | rfl
  · have hc : changeOne ⟨cs, head, pins, phase, grey, black, cursor⟩ ⟨1, xm, xb⟩ = ⟨addL cs xm xb, head, pins, phase, grey, black, cursor⟩ := by simp [changeOne]
    rw [hc]
    clear hc
    have hnode : 4 ≤ xb.length := by
      rcases hx with ⟨h1, _⟩ | ⟨_, h1, _⟩
      · exact absurd rfl h1
      · exact isNode_len h1
    have hnb : xb.length = n := HB.out.1
    have n12 := N12.out
    have n13 := N13.out
    have n23 := N23.out
    have e1 := G1.out
    have e2 := G2.out
    have e3 := G3.out
    have hLB : Calls Tryz.prog 95 #[.slice A n c] w3.drew fun e w' => ∃ A' n' c', e = .returned (.slice A' n' c') ∧ Mine w' w3.heap.size A' n' c' xb ∧ Below w3.heap.size w3 w' := (l1Bytes_any A n c xb B w3.drew (by omega) hn (show B ≤ w3.heap.size by omega) HB.out.drew).mono fun e w' h => by
      obtain ⟨a1, a2, a3, e, m, bb⟩ := h
      exact ⟨a1, a2, a3, e, m, (Below.refl _ _).drew.trans bb⟩
    have LB := Lib.hid hLB
    have hLA : ∀ W A1 n1 c1, Below w3.heap.size w3 W → Mine W w3.heap.size A1 n1 c1 xb → Calls Tryz.prog 118 #[.slice (some ⟨g0, 0, none⟩) n0 c0, .agg #[.int .i64 xm, .slice A1 n1 c1]] W fun e w' => ∃ g n2 c2, e = .returned (.slice (some ⟨g, 0, none⟩) n2 c2) ∧ OwnC w' lo w'.heap.size (some ⟨g, 0, none⟩) n2 c2 (addL cs xm xb) ∧ Below W.heap.size W w' :=
      fun W A1 n1 c1 hW hm => l4AddL_any g0 n0 c0 lo w3.heap.size cs xm A1 n1 c1 xb W (by omega) (O3.out.cells.below hW) hW.size (hm.base (by omega)) (fun b hb => (hm.1.lt b hb).1) M1.out
    have LA := Lib.hid hLA
    clear hLB hLA hx hnode
    go_enter Tryz.func79, Tryz.ntmps79
    go_wp2_with fail
    go_region_law (first
      | (go_simp
         go_at_call 118
         refine (LA.out w5 A1 n1 c1 z5 m1).mono ?_
         rintro e w6 ⟨g6, n6, c6, rfl, o6, b6⟩
         have z6 : Below w3.heap.size w3 w6 := z5.trans (b6.mono z5.size)
         have x0 := X0.out.below z6 X0.out.lt
         have p0 := x0.cell 0
         have p1 := x0.cell 1
         have p2 := x0.cell 2
         have p3 := x0.cell 3
         have p4 := x0.cell 4
         have p5 := x0.cell 5
         have p6 := x0.cell 6
         have f0 := x0.free
         simp at p0 p1 p2 p3 p4 p5 p6)
      | (go_simp
         go_at_call 95
         refine LB.out.mono ?_
         rintro e w5 ⟨A1, n1, c1, rfl, m1, z5⟩
         have x0 := X0.out.below z5 X0.out.lt
         have xc := XC.out.below z5 XC.out.lt
         have y1 := xc.cell 1
         simp at y1
         have p0 := x0.cell 0
         have p1 := x0.cell 1
         have p2 := x0.cell 2
         have p3 := x0.cell 3
         have p4 := x0.cell 4
         have p5 := x0.cell 5
         have p6 := x0.cell 6
         have f0 := x0.free
         simp at p0 p1 p2 p3 p4 p5 p6))
    all_goals
      have OW := Lib.hid (O3.out.below z6)
      have x1 := X1.out.below z6 X1.out.lt
      have X0 := Lib.hid x0
      have X1 := Lib.hid x1
      have B6 := Lib.hid (B3.out.trans (Touch.of_below z6))
      obtain ⟨wz, hwz⟩ : ∃ z, w6.setCell ⟨w.heap.size, 0, none⟩ (.slice (some ⟨g6, 0, none⟩) (n6) (c6)) = z := ⟨_, rfl⟩
      have twz : Touch (fun k => k = w.heap.size) w6 wz := hwz ▸ touch_set (S := fun k => k = w.heap.size) w6 w.heap.size 0 (.slice (some ⟨g6, 0, none⟩) (n6) (c6)) rfl
      have x0 : Box wz w.heap.size 30 #[.slice (some ⟨g6, 0, none⟩) (n6) (c6), .int .i64 head, .slice (some ⟨g1, 0, none⟩) np cp, .int .i64 phase, .slice (some ⟨g2, 0, none⟩) ng cg, .slice (some ⟨g3, 0, none⟩) nb cb, .int .i64 cursor] := hwz ▸ X0.out.set_ 0 (.slice (some ⟨g6, 0, none⟩) (n6) (c6))
      have x1 : Box wz (w.heap.size + 1 + 1) 30 #[.slice none 0 0, .int .i64 0, .slice none 0 0, .int .i64 0, .slice none 0 0, .slice none 0 0, .int .i64 0] := (twz.block _ X1.out.lt (fun e => by omega)).trans X1.out
      have BZ := Lib.hid (B6.out.trans (twz.mono (fun k e => .inr (by omega))))
      have OZ := Lib.hid (show OwnBK wz lo (Lay4 g6 n6 c6 g1 np cp g2 ng cg g3 nb cb) ⟨addL cs xm xb, head, pins, phase, grey, black, cursor⟩ from ((⟨o6, OW.out.pins, OW.out.grey, OW.out.black, OW.out.pg, OW.out.pb, OW.out.gb⟩ : OwnBK w6 lo (Lay4 g6 n6 c6 g1 np cp g2 ng cg g3 nb cb) ⟨addL cs xm xb, head, pins, phase, grey, black, cursor⟩).boxed X0.out twz))
      clear OW o6 b6 m1 LA LB
      have u0 := x0.cell 0
      have u1 := x0.cell 1
      have u2 := x0.cell 2
      have u3 := x0.cell 3
      have u4 := x0.cell 4
      have u5 := x0.cell 5
      have u6 := x0.cell 6
      have r0 := x1.cell 0
      have r1 := x1.cell 1
      have r2 := x1.cell 2
      have r3 := x1.cell 3
      have r4 := x1.cell 4
      have r5 := x1.cell 5
      have r6 := x1.cell 6
      have f1 := x1.free
      simp at u0 r0 u1 r1 u2 r2 u3 r3 u4 r4 u5 r5 u6 r6
      go_wp2
      have hX := (((((((x1).set_ 0 (.slice (some ⟨g6, 0, none⟩) (n6) (c6))).set_ 1 (.int .i64 head)).set_ 2 (.slice (some ⟨g1, 0, none⟩) np cp)).set_ 3 (.int .i64 phase)).set_ 4 (.slice (some ⟨g2, 0, none⟩) ng cg)).set_ 5 (.slice (some ⟨g3, 0, none⟩) nb cb)).set_ 6 (.int .i64 cursor)
      have hS : Touch (fun k => k = w.heap.size + 1 + 1) wz _ := (((((((touch_set (S := fun k => k = w.heap.size + 1 + 1) wz (w.heap.size + 1 + 1) 0 (.slice (some ⟨g6, 0, none⟩) (n6) (c6)) rfl).trans (touch_set (S := fun k => k = w.heap.size + 1 + 1) _ (w.heap.size + 1 + 1) 1 (.int .i64 head) rfl)).trans (touch_set (S := fun k => k = w.heap.size + 1 + 1) _ (w.heap.size + 1 + 1) 2 (.slice (some ⟨g1, 0, none⟩) np cp) rfl)).trans (touch_set (S := fun k => k = w.heap.size + 1 + 1) _ (w.heap.size + 1 + 1) 3 (.int .i64 phase) rfl)).trans (touch_set (S := fun k => k = w.heap.size + 1 + 1) _ (w.heap.size + 1 + 1) 4 (.slice (some ⟨g2, 0, none⟩) ng cg) rfl)).trans (touch_set (S := fun k => k = w.heap.size + 1 + 1) _ (w.heap.size + 1 + 1) 5 (.slice (some ⟨g3, 0, none⟩) nb cb) rfl)).trans (touch_set (S := fun k => k = w.heap.size + 1 + 1) _ (w.heap.size + 1 + 1) 6 (.int .i64 cursor) rfl))
      refine bodyPost_ret (v := .agg #[.slice (some ⟨g6, 0, none⟩) (n6) (c6), .int .i64 head, .slice (some ⟨g1, 0, none⟩) np cp, .int .i64 phase, .slice (some ⟨g2, 0, none⟩) ng cg, .slice (some ⟨g3, 0, none⟩) nb cb, .int .i64 cursor]) (results_cell_row Tryz.results79 _ _ (w.heap.size + 1 + 1) _ _ _ _ rfl hX Tryz.underlying30 rfl (by kernel_rfl)) rfl ?_
      exact ⟨(Lay4 g6 n6 c6 g1 np cp g2 ng cg g3 nb cb), rfl, ⟨_, _, _, _, _, _, _, _, _, _, _, _, rfl⟩, OZ.out.boxed x1 hS, (BZ.out.trans (hS.mono (fun k e => .inr (by omega)))).mono (fun g h => h.imp (fun e => by simp [Value.ownBlock, e]) id)⟩
  · have hc : changeOne ⟨cs, head, pins, phase, grey, black, cursor⟩ ⟨2, xm, xb⟩ = ⟨lessC cs xm, head, pins, phase, grey, lessL black xm, cursor⟩ := by simp [changeOne]
    rw [hc]
    clear hc
    go_enter Tryz.func79, Tryz.ntmps79
    go_wp2_with fail
    refine (l4Without_any g0 n0 c0 lo w3.heap.size cs xm w3 (by omega) O3.out.cells (Nat.le_refl _) (by omega)).mono ?_
    rintro e w4 ⟨g4, n4, c4, rfl, o4, b4⟩
    have hs4 := b4.size
    have OW := Lib.hid (O3.out.below b4)
    have x0 := X0.out.below b4 X0.out.lt
    have x1 := X1.out.below b4 X1.out.lt
    have xc := XC.out.below b4 XC.out.lt
    have X0 := Lib.hid x0
    have X1 := Lib.hid x1
    have XC := Lib.hid xc
    have B4 := Lib.hid (B3.out.trans (Touch.of_below b4))
    have p0 := x0.cell 0
    have p1 := x0.cell 1
    have p2 := x0.cell 2
    have p3 := x0.cell 3
    have p4 := x0.cell 4
    have p5 := x0.cell 5
    have p6 := x0.cell 6
    have f0 := x0.free
    simp at p0 p1 p2 p3 p4 p5 p6
    obtain ⟨wy, hwy⟩ : ∃ z, w4.setCell ⟨w.heap.size, 0, none⟩ (.slice (some ⟨g4, 0, none⟩) n4 c4) = z := ⟨_, rfl⟩
    have twy : Touch (fun k => k = w.heap.size) w4 wy := hwy ▸ touch_set (S := fun k => k = w.heap.size) w4 w.heap.size 0 (.slice (some ⟨g4, 0, none⟩) n4 c4) rfl
    have x0 : Box wy w.heap.size 30 #[.slice (some ⟨g4, 0, none⟩) n4 c4, .int .i64 head, .slice (some ⟨g1, 0, none⟩) np cp, .int .i64 phase, .slice (some ⟨g2, 0, none⟩) ng cg, .slice (some ⟨g3, 0, none⟩) nb cb, .int .i64 cursor] := hwy ▸ X0.out.set_ 0 (.slice (some ⟨g4, 0, none⟩) n4 c4)
    have x1 : Box wy (w.heap.size + 1 + 1) 30 #[.slice none 0 0, .int .i64 0, .slice none 0 0, .int .i64 0, .slice none 0 0, .slice none 0 0, .int .i64 0] := (twy.block _ X1.out.lt (fun e => by omega)).trans X1.out
    have BZ := Lib.hid (B4.out.trans (twy.mono (fun k e => .inr (by omega))))
    have xc := (twy.block _ XC.out.lt (fun e => by omega)).trans XC.out
    have xc : Box wy (w.heap.size + 1) _ _ := xc
    have OY := Lib.hid (show OwnBK wy lo (Lay4 g4 n4 c4 g1 np cp g2 ng cg g3 nb cb) ⟨lessC cs xm, head, pins, phase, grey, black, cursor⟩ from ((⟨o4, OW.out.pins, OW.out.grey, OW.out.black, OW.out.pg, OW.out.pb, OW.out.gb⟩ : OwnBK w4 lo (Lay4 g4 n4 c4 g1 np cp g2 ng cg g3 nb cb) ⟨lessC cs xm, head, pins, phase, grey, black, cursor⟩).boxed X0.out twy))
    have BY := BZ
    have X0 := Lib.hid x0
    have X1 := Lib.hid x1
    have XC := Lib.hid xc
    have hsy : w4.heap.size ≤ wy.heap.size := twy.size
    clear OW b4 o4 twy BZ
    have p0 := x0.cell 0
    have p1 := x0.cell 1
    have p2 := x0.cell 2
    have p3 := x0.cell 3
    have p4 := x0.cell 4
    have p5 := x0.cell 5
    have p6 := x0.cell 6
    have f0 := x0.free
    simp at p0 p1 p2 p3 p4 p5 p6
    have y1 := xc.cell 1
    simp at y1
    go_wp2_with fail
    refine (l13Less_any (some ⟨g3, 0, none⟩) nb cb black xm wy.heap.size wy (by omega) (Nat.le_refl _) OY.out.black.ints).mono ?_
    rintro e w5 ⟨g5, n5, c5, rfl, o5, b5⟩
    have hs5 := b5.size
    have hg5 := (World.ownsRow.lt o5 g5 (by simp [Value.ownBlock])).1
    have OW := Lib.hid (OY.out.below b5)
    have x0 := X0.out.below b5 X0.out.lt
    have x1 := X1.out.below b5 X1.out.lt
    have X0 := Lib.hid x0
    have X1 := Lib.hid x1
    have B5 := Lib.hid (BY.out.trans (Touch.of_below b5))
    have n12 := N12.out
    have n13 := N13.out
    have n23 := N23.out
    have e1 := G1.out
    have e2 := G2.out
    have e3 := G3.out
    clear p0 p1 p2 p3 p4 p5 p6 f0
    have p0 := x0.cell 0
    have p1 := x0.cell 1
    have p2 := x0.cell 2
    have p3 := x0.cell 3
    have p4 := x0.cell 4
    have p5 := x0.cell 5
    have p6 := x0.cell 6
    have f0 := x0.free
    simp at p0 p1 p2 p3 p4 p5 p6
    obtain ⟨wz, hwz⟩ : ∃ z, w5.setCell ⟨w.heap.size, 5, none⟩ (.slice (some ⟨g5, 0, none⟩) n5 c5) = z := ⟨_, rfl⟩
    have twz : Touch (fun k => k = w.heap.size) w5 wz := hwz ▸ touch_set (S := fun k => k = w.heap.size) w5 w.heap.size 5 (.slice (some ⟨g5, 0, none⟩) n5 c5) rfl
    have x0 : Box wz w.heap.size 30 #[.slice (some ⟨g4, 0, none⟩) n4 c4, .int .i64 head, .slice (some ⟨g1, 0, none⟩) np cp, .int .i64 phase, .slice (some ⟨g2, 0, none⟩) ng cg, .slice (some ⟨g5, 0, none⟩) n5 c5, .int .i64 cursor] := hwz ▸ X0.out.set_ 5 (.slice (some ⟨g5, 0, none⟩) n5 c5)
    have x1 : Box wz (w.heap.size + 1 + 1) 30 #[.slice none 0 0, .int .i64 0, .slice none 0 0, .int .i64 0, .slice none 0 0, .slice none 0 0, .int .i64 0] := (twz.block _ X1.out.lt (fun e => by omega)).trans X1.out
    have BZ := Lib.hid (B5.out.trans (twz.mono (fun k e => .inr (by omega))))
    have OZ := Lib.hid (show OwnBK wz lo (Lay4 g4 n4 c4 g1 np cp g2 ng cg g5 n5 c5) ⟨lessC cs xm, head, pins, phase, grey, lessL black xm, cursor⟩ from ((⟨OW.out.cells, OW.out.pins, OW.out.grey, OwnI.base o5 (by omega), OW.out.pg, (fun g h1 h2 => by have k1 := own_blk' h1; have k2 := own_blk' h2; omega), (fun g h1 h2 => by have k1 := own_blk' h1; have k2 := own_blk' h2; omega)⟩ : OwnBK w5 lo (Lay4 g4 n4 c4 g1 np cp g2 ng cg g5 n5 c5) ⟨lessC cs xm, head, pins, phase, grey, lessL black xm, cursor⟩).boxed X0.out twz))
    clear OW b5 o5
    have u0 := x0.cell 0
    have u1 := x0.cell 1
    have u2 := x0.cell 2
    have u3 := x0.cell 3
    have u4 := x0.cell 4
    have u5 := x0.cell 5
    have u6 := x0.cell 6
    have r0 := x1.cell 0
    have r1 := x1.cell 1
    have r2 := x1.cell 2
    have r3 := x1.cell 3
    have r4 := x1.cell 4
    have r5 := x1.cell 5
    have r6 := x1.cell 6
    have f1 := x1.free
    simp at u0 r0 u1 r1 u2 r2 u3 r3 u4 r4 u5 r5 u6 r6
    go_wp2
    have hX := (((((((x1).set_ 0 (.slice (some ⟨g4, 0, none⟩) n4 c4)).set_ 1 (.int .i64 head)).set_ 2 (.slice (some ⟨g1, 0, none⟩) np cp)).set_ 3 (.int .i64 phase)).set_ 4 (.slice (some ⟨g2, 0, none⟩) ng cg)).set_ 5 (.slice (some ⟨g5, 0, none⟩) n5 c5)).set_ 6 (.int .i64 cursor)
    have hS : Touch (fun k => k = w.heap.size + 1 + 1) wz _ := (((((((touch_set (S := fun k => k = w.heap.size + 1 + 1) wz (w.heap.size + 1 + 1) 0 (.slice (some ⟨g4, 0, none⟩) n4 c4) rfl).trans (touch_set (S := fun k => k = w.heap.size + 1 + 1) _ (w.heap.size + 1 + 1) 1 (.int .i64 head) rfl)).trans (touch_set (S := fun k => k = w.heap.size + 1 + 1) _ (w.heap.size + 1 + 1) 2 (.slice (some ⟨g1, 0, none⟩) np cp) rfl)).trans (touch_set (S := fun k => k = w.heap.size + 1 + 1) _ (w.heap.size + 1 + 1) 3 (.int .i64 phase) rfl)).trans (touch_set (S := fun k => k = w.heap.size + 1 + 1) _ (w.heap.size + 1 + 1) 4 (.slice (some ⟨g2, 0, none⟩) ng cg) rfl)).trans (touch_set (S := fun k => k = w.heap.size + 1 + 1) _ (w.heap.size + 1 + 1) 5 (.slice (some ⟨g5, 0, none⟩) n5 c5) rfl)).trans (touch_set (S := fun k => k = w.heap.size + 1 + 1) _ (w.heap.size + 1 + 1) 6 (.int .i64 cursor) rfl))
    refine bodyPost_ret (v := .agg #[.slice (some ⟨g4, 0, none⟩) n4 c4, .int .i64 head, .slice (some ⟨g1, 0, none⟩) np cp, .int .i64 phase, .slice (some ⟨g2, 0, none⟩) ng cg, .slice (some ⟨g5, 0, none⟩) n5 c5, .int .i64 cursor]) (results_cell_row Tryz.results79 _ _ (w.heap.size + 1 + 1) _ _ _ _ rfl hX Tryz.underlying30 rfl (by kernel_rfl)) rfl ?_
    exact ⟨(Lay4 g4 n4 c4 g1 np cp g2 ng cg g5 n5 c5), rfl, ⟨_, _, _, _, _, _, _, _, _, _, _, _, rfl⟩, OZ.out.boxed x1 hS, (BZ.out.trans (hS.mono (fun k e => .inr (by omega)))).mono (fun g h => h.imp (fun e => by simp [Value.ownBlock, e]) id)⟩
  · have hc : changeOne ⟨cs, head, pins, phase, grey, black, cursor⟩ ⟨3, xm, xb⟩ = ⟨cs, xm, pins, phase, grey, black, cursor⟩ := by simp [changeOne]
    rw [hc]
    clear hc
    obtain ⟨wz, hwz⟩ : ∃ z, w3.setCell ⟨w.heap.size, 1, none⟩ (.int .i64 xm) = z := ⟨_, rfl⟩
    have twz : Touch (fun k => k = w.heap.size) w3 wz := hwz ▸ touch_set (S := fun k => k = w.heap.size) w3 w.heap.size 1 (.int .i64 xm) rfl
    have x0 : Box wz w.heap.size 30 #[.slice (some ⟨g0, 0, none⟩) n0 c0, .int .i64 xm, .slice (some ⟨g1, 0, none⟩) np cp, .int .i64 phase, .slice (some ⟨g2, 0, none⟩) ng cg, .slice (some ⟨g3, 0, none⟩) nb cb, .int .i64 cursor] := hwz ▸ X0.out.set_ 1 (.int .i64 xm)
    have x1 : Box wz (w.heap.size + 1 + 1) 30 #[.slice none 0 0, .int .i64 0, .slice none 0 0, .int .i64 0, .slice none 0 0, .slice none 0 0, .int .i64 0] := (twz.block _ X1.out.lt (fun e => by omega)).trans X1.out
    have BZ := Lib.hid (B3.out.trans (twz.mono (fun k e => .inr (by omega))))
    have OZ := Lib.hid (show OwnBK wz lo (Lay4 g0 n0 c0 g1 np cp g2 ng cg g3 nb cb) ⟨cs, xm, pins, phase, grey, black, cursor⟩ from (by have h := O3.out.boxed X0.out twz; exact ⟨h.cells, h.pins, h.grey, h.black, h.pg, h.pb, h.gb⟩))
    go_enter Tryz.func79, Tryz.ntmps79
    have u0 := x0.cell 0
    have u1 := x0.cell 1
    have u2 := x0.cell 2
    have u3 := x0.cell 3
    have u4 := x0.cell 4
    have u5 := x0.cell 5
    have u6 := x0.cell 6
    have r0 := x1.cell 0
    have r1 := x1.cell 1
    have r2 := x1.cell 2
    have r3 := x1.cell 3
    have r4 := x1.cell 4
    have r5 := x1.cell 5
    have r6 := x1.cell 6
    have f1 := x1.free
    simp at u0 r0 u1 r1 u2 r2 u3 r3 u4 r4 u5 r5 u6 r6
    go_wp2
    have hX := (((((((x1).set_ 0 (.slice (some ⟨g0, 0, none⟩) n0 c0)).set_ 1 (.int .i64 xm)).set_ 2 (.slice (some ⟨g1, 0, none⟩) np cp)).set_ 3 (.int .i64 phase)).set_ 4 (.slice (some ⟨g2, 0, none⟩) ng cg)).set_ 5 (.slice (some ⟨g3, 0, none⟩) nb cb)).set_ 6 (.int .i64 cursor)
    have hS : Touch (fun k => k = w.heap.size + 1 + 1) wz _ := (((((((touch_set (S := fun k => k = w.heap.size + 1 + 1) wz (w.heap.size + 1 + 1) 0 (.slice (some ⟨g0, 0, none⟩) n0 c0) rfl).trans (touch_set (S := fun k => k = w.heap.size + 1 + 1) _ (w.heap.size + 1 + 1) 1 (.int .i64 xm) rfl)).trans (touch_set (S := fun k => k = w.heap.size + 1 + 1) _ (w.heap.size + 1 + 1) 2 (.slice (some ⟨g1, 0, none⟩) np cp) rfl)).trans (touch_set (S := fun k => k = w.heap.size + 1 + 1) _ (w.heap.size + 1 + 1) 3 (.int .i64 phase) rfl)).trans (touch_set (S := fun k => k = w.heap.size + 1 + 1) _ (w.heap.size + 1 + 1) 4 (.slice (some ⟨g2, 0, none⟩) ng cg) rfl)).trans (touch_set (S := fun k => k = w.heap.size + 1 + 1) _ (w.heap.size + 1 + 1) 5 (.slice (some ⟨g3, 0, none⟩) nb cb) rfl)).trans (touch_set (S := fun k => k = w.heap.size + 1 + 1) _ (w.heap.size + 1 + 1) 6 (.int .i64 cursor) rfl))
    refine bodyPost_ret (v := .agg #[.slice (some ⟨g0, 0, none⟩) n0 c0, .int .i64 xm, .slice (some ⟨g1, 0, none⟩) np cp, .int .i64 phase, .slice (some ⟨g2, 0, none⟩) ng cg, .slice (some ⟨g3, 0, none⟩) nb cb, .int .i64 cursor]) (results_cell_row Tryz.results79 _ _ (w.heap.size + 1 + 1) _ _ _ _ rfl hX Tryz.underlying30 rfl (by kernel_rfl)) rfl ?_
    exact ⟨(Lay4 g0 n0 c0 g1 np cp g2 ng cg g3 nb cb), rfl, ⟨_, _, _, _, _, _, _, _, _, _, _, _, rfl⟩, OZ.out.boxed x1 hS, (BZ.out.trans (hS.mono (fun k e => .inr (by omega)))).mono (fun g h => h.imp (fun e => by simp [Value.ownBlock, e]) id)⟩
  · by_cases hin : xm ∈ pins
    · have hc : changeOne ⟨cs, head, pins, phase, grey, black, cursor⟩ ⟨4, xm, xb⟩ = ⟨cs, head, pins, phase, grey, black, cursor⟩ := by simp [changeOne, intoL, hin]
      rw [hc]
      have HIN := Lib.hid hin
      clear hc hin
      go_enter Tryz.func79, Tryz.ntmps79
      go_wp2_with fail
      refine (l4Into_any g1 np cp pins xm w3.heap.size w3 (by omega) hcap1 (Nat.le_refl _) O3.out.pins.ints M3.out).mono ?_
      rintro e w4 ⟨b4, h4⟩
      rcases h4 with ⟨_, rfl⟩ | ⟨h4, _⟩
      case inr => exact absurd HIN.out h4
      have hs4 := b4.size
      have OW := Lib.hid (O3.out.below b4)
      have x0 := X0.out.below b4 X0.out.lt
      have x1 := X1.out.below b4 X1.out.lt
      have xc := XC.out.below b4 XC.out.lt
      have X0 := Lib.hid x0
      have X1 := Lib.hid x1
      have XC := Lib.hid xc
      have B4 := Lib.hid (B3.out.trans (Touch.of_below b4))
      have p0 := x0.cell 0
      have p1 := x0.cell 1
      have p2 := x0.cell 2
      have p3 := x0.cell 3
      have p4 := x0.cell 4
      have p5 := x0.cell 5
      have p6 := x0.cell 6
      have f0 := x0.free
      simp at p0 p1 p2 p3 p4 p5 p6
      obtain ⟨wz, hwz⟩ : ∃ z, w4.setCell ⟨w.heap.size, 2, none⟩ (.slice (some ⟨g1, 0, none⟩) np cp) = z := ⟨_, rfl⟩
      have twz : Touch (fun k => k = w.heap.size) w4 wz := hwz ▸ touch_set (S := fun k => k = w.heap.size) w4 w.heap.size 2 (.slice (some ⟨g1, 0, none⟩) np cp) rfl
      have x0 : Box wz w.heap.size 30 #[.slice (some ⟨g0, 0, none⟩) n0 c0, .int .i64 head, .slice (some ⟨g1, 0, none⟩) np cp, .int .i64 phase, .slice (some ⟨g2, 0, none⟩) ng cg, .slice (some ⟨g3, 0, none⟩) nb cb, .int .i64 cursor] := hwz ▸ X0.out.set_ 2 (.slice (some ⟨g1, 0, none⟩) np cp)
      have x1 : Box wz (w.heap.size + 1 + 1) 30 #[.slice none 0 0, .int .i64 0, .slice none 0 0, .int .i64 0, .slice none 0 0, .slice none 0 0, .int .i64 0] := (twz.block _ X1.out.lt (fun e => by omega)).trans X1.out
      have BZ := Lib.hid (B4.out.trans (twz.mono (fun k e => .inr (by omega))))
      have OZ := Lib.hid (OW.out.boxed X0.out twz)
      clear OW b4
      have u0 := x0.cell 0
      have u1 := x0.cell 1
      have u2 := x0.cell 2
      have u3 := x0.cell 3
      have u4 := x0.cell 4
      have u5 := x0.cell 5
      have u6 := x0.cell 6
      have r0 := x1.cell 0
      have r1 := x1.cell 1
      have r2 := x1.cell 2
      have r3 := x1.cell 3
      have r4 := x1.cell 4
      have r5 := x1.cell 5
      have r6 := x1.cell 6
      have f1 := x1.free
      simp at u0 r0 u1 r1 u2 r2 u3 r3 u4 r4 u5 r5 u6 r6
      go_wp2
      have hX := (((((((x1).set_ 0 (.slice (some ⟨g0, 0, none⟩) n0 c0)).set_ 1 (.int .i64 head)).set_ 2 (.slice (some ⟨g1, 0, none⟩) np cp)).set_ 3 (.int .i64 phase)).set_ 4 (.slice (some ⟨g2, 0, none⟩) ng cg)).set_ 5 (.slice (some ⟨g3, 0, none⟩) nb cb)).set_ 6 (.int .i64 cursor)
      have hS : Touch (fun k => k = w.heap.size + 1 + 1) wz _ := (((((((touch_set (S := fun k => k = w.heap.size + 1 + 1) wz (w.heap.size + 1 + 1) 0 (.slice (some ⟨g0, 0, none⟩) n0 c0) rfl).trans (touch_set (S := fun k => k = w.heap.size + 1 + 1) _ (w.heap.size + 1 + 1) 1 (.int .i64 head) rfl)).trans (touch_set (S := fun k => k = w.heap.size + 1 + 1) _ (w.heap.size + 1 + 1) 2 (.slice (some ⟨g1, 0, none⟩) np cp) rfl)).trans (touch_set (S := fun k => k = w.heap.size + 1 + 1) _ (w.heap.size + 1 + 1) 3 (.int .i64 phase) rfl)).trans (touch_set (S := fun k => k = w.heap.size + 1 + 1) _ (w.heap.size + 1 + 1) 4 (.slice (some ⟨g2, 0, none⟩) ng cg) rfl)).trans (touch_set (S := fun k => k = w.heap.size + 1 + 1) _ (w.heap.size + 1 + 1) 5 (.slice (some ⟨g3, 0, none⟩) nb cb) rfl)).trans (touch_set (S := fun k => k = w.heap.size + 1 + 1) _ (w.heap.size + 1 + 1) 6 (.int .i64 cursor) rfl))
      refine bodyPost_ret (v := .agg #[.slice (some ⟨g0, 0, none⟩) n0 c0, .int .i64 head, .slice (some ⟨g1, 0, none⟩) np cp, .int .i64 phase, .slice (some ⟨g2, 0, none⟩) ng cg, .slice (some ⟨g3, 0, none⟩) nb cb, .int .i64 cursor]) (results_cell_row Tryz.results79 _ _ (w.heap.size + 1 + 1) _ _ _ _ rfl hX Tryz.underlying30 rfl (by kernel_rfl)) rfl ?_
      exact ⟨(Lay4 g0 n0 c0 g1 np cp g2 ng cg g3 nb cb), rfl, ⟨_, _, _, _, _, _, _, _, _, _, _, _, rfl⟩, OZ.out.boxed x1 hS, (BZ.out.trans (hS.mono (fun k e => .inr (by omega)))).mono (fun g h => h.imp (fun e => by simp [Value.ownBlock, e]) id)⟩
    · have hc : changeOne ⟨cs, head, pins, phase, grey, black, cursor⟩ ⟨4, xm, xb⟩ = ⟨cs, head, insI pins xm, phase, grey, black, cursor⟩ := by simp [changeOne, intoL, hin]
      rw [hc]
      have HIN := Lib.hid hin
      clear hc hin
      go_enter Tryz.func79, Tryz.ntmps79
      go_wp2_with fail
      refine (l4Into_any g1 np cp pins xm w3.heap.size w3 (by omega) hcap1 (Nat.le_refl _) O3.out.pins.ints M3.out).mono ?_
      rintro e w4 ⟨b4, h4⟩
      rcases h4 with ⟨h4, _⟩ | ⟨_, g4, c4, rfl, o4⟩
      case inl => exact absurd h4 HIN.out
      have hg4 := (World.ownsRow.lt o4 g4 (by simp [Value.ownBlock])).1
      have hs4 := b4.size
      have OW := Lib.hid (O3.out.below b4)
      have x0 := X0.out.below b4 X0.out.lt
      have x1 := X1.out.below b4 X1.out.lt
      have xc := XC.out.below b4 XC.out.lt
      have X0 := Lib.hid x0
      have X1 := Lib.hid x1
      have XC := Lib.hid xc
      have B4 := Lib.hid (B3.out.trans (Touch.of_below b4))
      have n12 := N12.out
      have n13 := N13.out
      have n23 := N23.out
      have e1 := G1.out
      have e2 := G2.out
      have e3 := G3.out
      have p0 := x0.cell 0
      have p1 := x0.cell 1
      have p2 := x0.cell 2
      have p3 := x0.cell 3
      have p4 := x0.cell 4
      have p5 := x0.cell 5
      have p6 := x0.cell 6
      have f0 := x0.free
      simp at p0 p1 p2 p3 p4 p5 p6
      obtain ⟨wz, hwz⟩ : ∃ z, w4.setCell ⟨w.heap.size, 2, none⟩ (.slice (some ⟨g4, 0, none⟩) (np + 1) (c4)) = z := ⟨_, rfl⟩
      have twz : Touch (fun k => k = w.heap.size) w4 wz := hwz ▸ touch_set (S := fun k => k = w.heap.size) w4 w.heap.size 2 (.slice (some ⟨g4, 0, none⟩) (np + 1) (c4)) rfl
      have x0 : Box wz w.heap.size 30 #[.slice (some ⟨g0, 0, none⟩) n0 c0, .int .i64 head, .slice (some ⟨g4, 0, none⟩) (np + 1) (c4), .int .i64 phase, .slice (some ⟨g2, 0, none⟩) ng cg, .slice (some ⟨g3, 0, none⟩) nb cb, .int .i64 cursor] := hwz ▸ X0.out.set_ 2 (.slice (some ⟨g4, 0, none⟩) (np + 1) (c4))
      have x1 : Box wz (w.heap.size + 1 + 1) 30 #[.slice none 0 0, .int .i64 0, .slice none 0 0, .int .i64 0, .slice none 0 0, .slice none 0 0, .int .i64 0] := (twz.block _ X1.out.lt (fun e => by omega)).trans X1.out
      have BZ := Lib.hid (B4.out.trans (twz.mono (fun k e => .inr (by omega))))
      have OZ := Lib.hid (show OwnBK wz lo (Lay4 g0 n0 c0 g4 (np + 1) c4 g2 ng cg g3 nb cb) ⟨cs, head, insI pins xm, phase, grey, black, cursor⟩ from (⟨OW.out.cells, OwnI.base o4 (by omega), OW.out.grey, OW.out.black, (fun g h1 h2 => by have k1 := own_blk' h1; have k2 := own_blk' h2; omega), (fun g h1 h2 => by have k1 := own_blk' h1; have k2 := own_blk' h2; omega), OW.out.gb⟩ : OwnBK w4 lo (Lay4 g0 n0 c0 g4 (np + 1) c4 g2 ng cg g3 nb cb) ⟨cs, head, insI pins xm, phase, grey, black, cursor⟩).boxed X0.out twz)
      clear OW b4 o4
      have u0 := x0.cell 0
      have u1 := x0.cell 1
      have u2 := x0.cell 2
      have u3 := x0.cell 3
      have u4 := x0.cell 4
      have u5 := x0.cell 5
      have u6 := x0.cell 6
      have r0 := x1.cell 0
      have r1 := x1.cell 1
      have r2 := x1.cell 2
      have r3 := x1.cell 3
      have r4 := x1.cell 4
      have r5 := x1.cell 5
      have r6 := x1.cell 6
      have f1 := x1.free
      simp at u0 r0 u1 r1 u2 r2 u3 r3 u4 r4 u5 r5 u6 r6
      go_wp2
      have hX := (((((((x1).set_ 0 (.slice (some ⟨g0, 0, none⟩) n0 c0)).set_ 1 (.int .i64 head)).set_ 2 (.slice (some ⟨g4, 0, none⟩) (np + 1) (c4))).set_ 3 (.int .i64 phase)).set_ 4 (.slice (some ⟨g2, 0, none⟩) ng cg)).set_ 5 (.slice (some ⟨g3, 0, none⟩) nb cb)).set_ 6 (.int .i64 cursor)
      have hS : Touch (fun k => k = w.heap.size + 1 + 1) wz _ := (((((((touch_set (S := fun k => k = w.heap.size + 1 + 1) wz (w.heap.size + 1 + 1) 0 (.slice (some ⟨g0, 0, none⟩) n0 c0) rfl).trans (touch_set (S := fun k => k = w.heap.size + 1 + 1) _ (w.heap.size + 1 + 1) 1 (.int .i64 head) rfl)).trans (touch_set (S := fun k => k = w.heap.size + 1 + 1) _ (w.heap.size + 1 + 1) 2 (.slice (some ⟨g4, 0, none⟩) (np + 1) (c4)) rfl)).trans (touch_set (S := fun k => k = w.heap.size + 1 + 1) _ (w.heap.size + 1 + 1) 3 (.int .i64 phase) rfl)).trans (touch_set (S := fun k => k = w.heap.size + 1 + 1) _ (w.heap.size + 1 + 1) 4 (.slice (some ⟨g2, 0, none⟩) ng cg) rfl)).trans (touch_set (S := fun k => k = w.heap.size + 1 + 1) _ (w.heap.size + 1 + 1) 5 (.slice (some ⟨g3, 0, none⟩) nb cb) rfl)).trans (touch_set (S := fun k => k = w.heap.size + 1 + 1) _ (w.heap.size + 1 + 1) 6 (.int .i64 cursor) rfl))
      refine bodyPost_ret (v := .agg #[.slice (some ⟨g0, 0, none⟩) n0 c0, .int .i64 head, .slice (some ⟨g4, 0, none⟩) (np + 1) (c4), .int .i64 phase, .slice (some ⟨g2, 0, none⟩) ng cg, .slice (some ⟨g3, 0, none⟩) nb cb, .int .i64 cursor]) (results_cell_row Tryz.results79 _ _ (w.heap.size + 1 + 1) _ _ _ _ rfl hX Tryz.underlying30 rfl (by kernel_rfl)) rfl ?_
      exact ⟨(Lay4 g0 n0 c0 g4 (np + 1) c4 g2 ng cg g3 nb cb), rfl, ⟨_, _, _, _, _, _, _, _, _, _, _, _, rfl⟩, OZ.out.boxed x1 hS, (BZ.out.trans (hS.mono (fun k e => .inr (by omega)))).mono (fun g h => h.imp (fun e => by simp [Value.ownBlock, e]) id)⟩
  · have hc : changeOne ⟨cs, head, pins, phase, grey, black, cursor⟩ ⟨5, xm, xb⟩ = ⟨cs, head, lessL pins xm, phase, grey, black, cursor⟩ := by simp [changeOne]
    rw [hc]
    clear hc
    go_enter Tryz.func79, Tryz.ntmps79
    go_wp2_with fail
    refine (l13Less_any (some ⟨g1, 0, none⟩) np cp pins xm w3.heap.size w3 (by omega) (Nat.le_refl _) O3.out.pins.ints).mono ?_
    rintro e w4 ⟨g4, n4, c4, rfl, o4, b4⟩
    have hg4 := (World.ownsRow.lt o4 g4 (by simp [Value.ownBlock])).1
    have hs4 := b4.size
    have OW := Lib.hid (O3.out.below b4)
    have x0 := X0.out.below b4 X0.out.lt
    have x1 := X1.out.below b4 X1.out.lt
    have xc := XC.out.below b4 XC.out.lt
    have X0 := Lib.hid x0
    have X1 := Lib.hid x1
    have XC := Lib.hid xc
    have B4 := Lib.hid (B3.out.trans (Touch.of_below b4))
    have n12 := N12.out
    have n13 := N13.out
    have n23 := N23.out
    have e1 := G1.out
    have e2 := G2.out
    have e3 := G3.out
    have p0 := x0.cell 0
    have p1 := x0.cell 1
    have p2 := x0.cell 2
    have p3 := x0.cell 3
    have p4 := x0.cell 4
    have p5 := x0.cell 5
    have p6 := x0.cell 6
    have f0 := x0.free
    simp at p0 p1 p2 p3 p4 p5 p6
    obtain ⟨wz, hwz⟩ : ∃ z, w4.setCell ⟨w.heap.size, 2, none⟩ (.slice (some ⟨g4, 0, none⟩) (n4) (c4)) = z := ⟨_, rfl⟩
    have twz : Touch (fun k => k = w.heap.size) w4 wz := hwz ▸ touch_set (S := fun k => k = w.heap.size) w4 w.heap.size 2 (.slice (some ⟨g4, 0, none⟩) (n4) (c4)) rfl
    have x0 : Box wz w.heap.size 30 #[.slice (some ⟨g0, 0, none⟩) n0 c0, .int .i64 head, .slice (some ⟨g4, 0, none⟩) (n4) (c4), .int .i64 phase, .slice (some ⟨g2, 0, none⟩) ng cg, .slice (some ⟨g3, 0, none⟩) nb cb, .int .i64 cursor] := hwz ▸ X0.out.set_ 2 (.slice (some ⟨g4, 0, none⟩) (n4) (c4))
    have x1 : Box wz (w.heap.size + 1 + 1) 30 #[.slice none 0 0, .int .i64 0, .slice none 0 0, .int .i64 0, .slice none 0 0, .slice none 0 0, .int .i64 0] := (twz.block _ X1.out.lt (fun e => by omega)).trans X1.out
    have BZ := Lib.hid (B4.out.trans (twz.mono (fun k e => .inr (by omega))))
    have OZ := Lib.hid (show OwnBK wz lo (Lay4 g0 n0 c0 g4 n4 c4 g2 ng cg g3 nb cb) ⟨cs, head, lessL pins xm, phase, grey, black, cursor⟩ from (⟨OW.out.cells, OwnI.base o4 (by omega), OW.out.grey, OW.out.black, (fun g h1 h2 => by have k1 := own_blk' h1; have k2 := own_blk' h2; omega), (fun g h1 h2 => by have k1 := own_blk' h1; have k2 := own_blk' h2; omega), OW.out.gb⟩ : OwnBK w4 lo (Lay4 g0 n0 c0 g4 n4 c4 g2 ng cg g3 nb cb) ⟨cs, head, lessL pins xm, phase, grey, black, cursor⟩).boxed X0.out twz)
    clear OW b4 o4
    have u0 := x0.cell 0
    have u1 := x0.cell 1
    have u2 := x0.cell 2
    have u3 := x0.cell 3
    have u4 := x0.cell 4
    have u5 := x0.cell 5
    have u6 := x0.cell 6
    have r0 := x1.cell 0
    have r1 := x1.cell 1
    have r2 := x1.cell 2
    have r3 := x1.cell 3
    have r4 := x1.cell 4
    have r5 := x1.cell 5
    have r6 := x1.cell 6
    have f1 := x1.free
    simp at u0 r0 u1 r1 u2 r2 u3 r3 u4 r4 u5 r5 u6 r6
    go_wp2
    have hX := (((((((x1).set_ 0 (.slice (some ⟨g0, 0, none⟩) n0 c0)).set_ 1 (.int .i64 head)).set_ 2 (.slice (some ⟨g4, 0, none⟩) (n4) (c4))).set_ 3 (.int .i64 phase)).set_ 4 (.slice (some ⟨g2, 0, none⟩) ng cg)).set_ 5 (.slice (some ⟨g3, 0, none⟩) nb cb)).set_ 6 (.int .i64 cursor)
    have hS : Touch (fun k => k = w.heap.size + 1 + 1) wz _ := (((((((touch_set (S := fun k => k = w.heap.size + 1 + 1) wz (w.heap.size + 1 + 1) 0 (.slice (some ⟨g0, 0, none⟩) n0 c0) rfl).trans (touch_set (S := fun k => k = w.heap.size + 1 + 1) _ (w.heap.size + 1 + 1) 1 (.int .i64 head) rfl)).trans (touch_set (S := fun k => k = w.heap.size + 1 + 1) _ (w.heap.size + 1 + 1) 2 (.slice (some ⟨g4, 0, none⟩) (n4) (c4)) rfl)).trans (touch_set (S := fun k => k = w.heap.size + 1 + 1) _ (w.heap.size + 1 + 1) 3 (.int .i64 phase) rfl)).trans (touch_set (S := fun k => k = w.heap.size + 1 + 1) _ (w.heap.size + 1 + 1) 4 (.slice (some ⟨g2, 0, none⟩) ng cg) rfl)).trans (touch_set (S := fun k => k = w.heap.size + 1 + 1) _ (w.heap.size + 1 + 1) 5 (.slice (some ⟨g3, 0, none⟩) nb cb) rfl)).trans (touch_set (S := fun k => k = w.heap.size + 1 + 1) _ (w.heap.size + 1 + 1) 6 (.int .i64 cursor) rfl))
    refine bodyPost_ret (v := .agg #[.slice (some ⟨g0, 0, none⟩) n0 c0, .int .i64 head, .slice (some ⟨g4, 0, none⟩) (n4) (c4), .int .i64 phase, .slice (some ⟨g2, 0, none⟩) ng cg, .slice (some ⟨g3, 0, none⟩) nb cb, .int .i64 cursor]) (results_cell_row Tryz.results79 _ _ (w.heap.size + 1 + 1) _ _ _ _ rfl hX Tryz.underlying30 rfl (by kernel_rfl)) rfl ?_
    exact ⟨(Lay4 g0 n0 c0 g4 n4 c4 g2 ng cg g3 nb cb), rfl, ⟨_, _, _, _, _, _, _, _, _, _, _, _, rfl⟩, OZ.out.boxed x1 hS, (BZ.out.trans (hS.mono (fun k e => .inr (by omega)))).mono (fun g h => h.imp (fun e => by simp [Value.ownBlock, e]) id)⟩
  · have hc : changeOne ⟨cs, head, pins, phase, grey, black, cursor⟩ ⟨6, xm, xb⟩ = ⟨cs, head, pins, phase, grey ++ [xm], black, cursor⟩ := by simp [changeOne]
    rw [hc]
    clear hc
    obtain ⟨i0, hi, hz0, hz1, hz2⟩ := info_parts Tryz.infoI
    have HI := Lib.hid hi
    have HZ0 := Lib.hid hz0
    have HZ1 := Lib.hid hz1
    have HZ2 := Lib.hid hz2
    clear hi hz0 hz1 hz2
    have ba : Below w3.heap.size w3 (w3.alloc (.cells #[.int .i64 xm] 2)) := (Below.refl _ _).alloc (Nat.le_refl _) _
    have oA : OwnI (w3.alloc (.cells #[.int .i64 xm] 2)) lo (some ⟨g2, 0, none⟩) ng cg grey := O3.out.grey.below ba
    go_enter Tryz.func79, Tryz.ntmps79
    go_wp2_with (at_builtin; go_loud (refine wpList_append_lies _ rfl _ _ 23 rfl lo 2 i0 (.int .i64 0) 1 8 Tryz.underlying23 HI.out HZ0.out HZ1.out HZ2.out rfl (by decide) (.slice (some ⟨g2, 0, none⟩) ng cg) ng (grey.map (Value.int .i64)) (by simp [Act.eval]) oA ⟨w3.heap.size, 0, none⟩ 1 1 [.int .i64 xm] (by simp [Act.eval]) rfl (by intro j u hj; match j, hj with | 0, hj => (simp at hj; subst hj; simp [Addr.add])) (by intro u hu; simp at hu; subst hu; rfl) (by omega) (by unfold maxLen; omega) (by omega) (by simp; omega) _ rfl ?_))
    intro g4 c4 w4 hown4 hgrow4 hor4 _
    have t4 : Touch (fun g => g = g2 ∨ w3.heap.size ≤ g) w3 w4 := (Touch.of_below ba).trans ((Touch.of_grown hgrow4).mono (fun b e => by simp [Value.ownBlock] at e; omega))
    have h4 : g4 = g2 ∨ w3.heap.size ≤ g4 := by rcases hor4 with e | e <;> (try simp [Value.ownBlock] at e) <;> omega
    have o4 : OwnI w4 lo (some ⟨g4, 0, none⟩) (ng + 1) c4 (grey ++ [xm]) := by unfold OwnI; rw [List.map_append]; exact hown4
    have hs4 : w3.heap.size ≤ w4.heap.size := t4.size
    have n12 := N12.out
    have n13 := N13.out
    have n23 := N23.out
    have e1 := G1.out
    have e2 := G2.out
    have e3 := G3.out
    have oc4 : OwnC w4 lo w4.heap.size (some ⟨g0, 0, none⟩) n0 c0 cs := (O3.out.cells.touchK t4 (fun b hk e => by
      rcases e with e | e
      · exact O3.out.grey.notC (g := b) (by rw [e]; simp [Lay4, Value.ownBlock]) hk
      · obtain ⟨cur, ty, h, _⟩ := hk; rw [Array.getElem?_eq_none e] at h; cases h)).more t4.size
    have op4 : OwnI w4 lo (some ⟨g1, 0, none⟩) np cp pins := O3.out.pins.touch t4 (fun g hg e => by have k1 := own_blk' hg; rcases e with e | e <;> omega)
    have ob4 : OwnI w4 lo (some ⟨g3, 0, none⟩) nb cb black := O3.out.black.touch t4 (fun g hg e => by have k1 := own_blk' hg; rcases e with e | e <;> omega)
    have x0 : Box w4 w.heap.size _ _ := (t4.block _ X0.out.lt (fun e => by omega)).trans X0.out
    have x1 : Box w4 (w.heap.size + 1 + 1) _ _ := (t4.block _ X1.out.lt (fun e => by omega)).trans X1.out
    have X0 := Lib.hid x0
    have X1 := Lib.hid x1
    have B4 := Lib.hid (B3.out.trans (t4.mono (fun k e => by rcases e with e | e <;> omega)))
    clear p0 p1 p2 p3 p4 p5 p6 f0 hown4 hgrow4 hor4 oA ba
    have p0 := x0.cell 0
    have p1 := x0.cell 1
    have p2 := x0.cell 2
    have p3 := x0.cell 3
    have p4 := x0.cell 4
    have p5 := x0.cell 5
    have p6 := x0.cell 6
    have f0 := x0.free
    simp at p0 p1 p2 p3 p4 p5 p6
    obtain ⟨wz, hwz⟩ : ∃ z, w4.setCell ⟨w.heap.size, 4, none⟩ (.slice (some ⟨g4, 0, none⟩) (ng + 1) c4) = z := ⟨_, rfl⟩
    have twz : Touch (fun k => k = w.heap.size) w4 wz := hwz ▸ touch_set (S := fun k => k = w.heap.size) w4 w.heap.size 4 (.slice (some ⟨g4, 0, none⟩) (ng + 1) c4) rfl
    have x0 : Box wz w.heap.size 30 #[.slice (some ⟨g0, 0, none⟩) n0 c0, .int .i64 head, .slice (some ⟨g1, 0, none⟩) np cp, .int .i64 phase, .slice (some ⟨g4, 0, none⟩) (ng + 1) c4, .slice (some ⟨g3, 0, none⟩) nb cb, .int .i64 cursor] := hwz ▸ X0.out.set_ 4 (.slice (some ⟨g4, 0, none⟩) (ng + 1) c4)
    have x1 : Box wz (w.heap.size + 1 + 1) 30 #[.slice none 0 0, .int .i64 0, .slice none 0 0, .int .i64 0, .slice none 0 0, .slice none 0 0, .int .i64 0] := (twz.block _ X1.out.lt (fun e => by omega)).trans X1.out
    have BZ := Lib.hid (B4.out.trans (twz.mono (fun k e => .inr (by omega))))
    have OZ := Lib.hid (show OwnBK wz lo (Lay4 g0 n0 c0 g1 np cp g4 (ng + 1) c4 g3 nb cb) ⟨cs, head, pins, phase, grey ++ [xm], black, cursor⟩ from ((⟨oc4, op4, o4, ob4, (fun g h1 h2 => by have k1 := own_blk' h1; have k2 := own_blk' h2; omega), (fun g h1 h2 => by have k1 := own_blk' h1; have k2 := own_blk' h2; omega), (fun g h1 h2 => by have k1 := own_blk' h1; have k2 := own_blk' h2; omega)⟩ : OwnBK w4 lo (Lay4 g0 n0 c0 g1 np cp g4 (ng + 1) c4 g3 nb cb) ⟨cs, head, pins, phase, grey ++ [xm], black, cursor⟩).boxed X0.out twz))
    clear oc4 op4 o4 ob4 t4
    have u0 := x0.cell 0
    have u1 := x0.cell 1
    have u2 := x0.cell 2
    have u3 := x0.cell 3
    have u4 := x0.cell 4
    have u5 := x0.cell 5
    have u6 := x0.cell 6
    have r0 := x1.cell 0
    have r1 := x1.cell 1
    have r2 := x1.cell 2
    have r3 := x1.cell 3
    have r4 := x1.cell 4
    have r5 := x1.cell 5
    have r6 := x1.cell 6
    have f1 := x1.free
    simp at u0 r0 u1 r1 u2 r2 u3 r3 u4 r4 u5 r5 u6 r6
    go_wp2
    have hX := (((((((x1).set_ 0 (.slice (some ⟨g0, 0, none⟩) n0 c0)).set_ 1 (.int .i64 head)).set_ 2 (.slice (some ⟨g1, 0, none⟩) np cp)).set_ 3 (.int .i64 phase)).set_ 4 (.slice (some ⟨g4, 0, none⟩) (ng + 1) c4)).set_ 5 (.slice (some ⟨g3, 0, none⟩) nb cb)).set_ 6 (.int .i64 cursor)
    have hS : Touch (fun k => k = w.heap.size + 1 + 1) wz _ := (((((((touch_set (S := fun k => k = w.heap.size + 1 + 1) wz (w.heap.size + 1 + 1) 0 (.slice (some ⟨g0, 0, none⟩) n0 c0) rfl).trans (touch_set (S := fun k => k = w.heap.size + 1 + 1) _ (w.heap.size + 1 + 1) 1 (.int .i64 head) rfl)).trans (touch_set (S := fun k => k = w.heap.size + 1 + 1) _ (w.heap.size + 1 + 1) 2 (.slice (some ⟨g1, 0, none⟩) np cp) rfl)).trans (touch_set (S := fun k => k = w.heap.size + 1 + 1) _ (w.heap.size + 1 + 1) 3 (.int .i64 phase) rfl)).trans (touch_set (S := fun k => k = w.heap.size + 1 + 1) _ (w.heap.size + 1 + 1) 4 (.slice (some ⟨g4, 0, none⟩) (ng + 1) c4) rfl)).trans (touch_set (S := fun k => k = w.heap.size + 1 + 1) _ (w.heap.size + 1 + 1) 5 (.slice (some ⟨g3, 0, none⟩) nb cb) rfl)).trans (touch_set (S := fun k => k = w.heap.size + 1 + 1) _ (w.heap.size + 1 + 1) 6 (.int .i64 cursor) rfl))
    refine bodyPost_ret (v := .agg #[.slice (some ⟨g0, 0, none⟩) n0 c0, .int .i64 head, .slice (some ⟨g1, 0, none⟩) np cp, .int .i64 phase, .slice (some ⟨g4, 0, none⟩) (ng + 1) c4, .slice (some ⟨g3, 0, none⟩) nb cb, .int .i64 cursor]) (results_cell_row Tryz.results79 _ _ (w.heap.size + 1 + 1) _ _ _ _ rfl hX Tryz.underlying30 rfl (by kernel_rfl)) rfl ?_
    exact ⟨(Lay4 g0 n0 c0 g1 np cp g4 (ng + 1) c4 g3 nb cb), rfl, ⟨_, _, _, _, _, _, _, _, _, _, _, _, rfl⟩, OZ.out.boxed x1 hS, (BZ.out.trans (hS.mono (fun k e => .inr (by omega)))).mono (fun g h => h.imp (fun e => by simp [Value.ownBlock, e]) id)⟩
  · rcases Nat.eq_zero_or_pos ng with hz | hz
    · have hg0 : grey = [] := List.eq_nil_of_length_eq_zero (by omega)
      have hc : changeOne ⟨cs, head, pins, phase, grey, black, cursor⟩ ⟨7, xm, xb⟩ = ⟨cs, head, pins, phase, grey, black, cursor⟩ := by simp [changeOne, hg0]
      rw [hc]
      have hd : decide (0 < ng) = false := decide_eq_false (by omega)
      have HZ := Lib.hid hz
      have HG0 := Lib.hid hg0
      clear hc hz hg0
      have OZ := O3
      have BZ := B3
      have x0 := X0.out
      have x1 := X1.out
      have hkeep := hw3
      go_enter Tryz.func79, Tryz.ntmps79
      have u0 := x0.cell 0
      have u1 := x0.cell 1
      have u2 := x0.cell 2
      have u3 := x0.cell 3
      have u4 := x0.cell 4
      have u5 := x0.cell 5
      have u6 := x0.cell 6
      have r0 := x1.cell 0
      have r1 := x1.cell 1
      have r2 := x1.cell 2
      have r3 := x1.cell 3
      have r4 := x1.cell 4
      have r5 := x1.cell 5
      have r6 := x1.cell 6
      have f1 := x1.free
      simp at u0 r0 u1 r1 u2 r2 u3 r3 u4 r4 u5 r5 u6 r6
      go_wp2
      have hX := (((((((x1).set_ 0 (.slice (some ⟨g0, 0, none⟩) n0 c0)).set_ 1 (.int .i64 head)).set_ 2 (.slice (some ⟨g1, 0, none⟩) np cp)).set_ 3 (.int .i64 phase)).set_ 4 (.slice (some ⟨g2, 0, none⟩) ng cg)).set_ 5 (.slice (some ⟨g3, 0, none⟩) nb cb)).set_ 6 (.int .i64 cursor)
      have hS : Touch (fun k => k = w.heap.size + 1 + 1) w3 _ := (((((((touch_set (S := fun k => k = w.heap.size + 1 + 1) w3 (w.heap.size + 1 + 1) 0 (.slice (some ⟨g0, 0, none⟩) n0 c0) rfl).trans (touch_set (S := fun k => k = w.heap.size + 1 + 1) _ (w.heap.size + 1 + 1) 1 (.int .i64 head) rfl)).trans (touch_set (S := fun k => k = w.heap.size + 1 + 1) _ (w.heap.size + 1 + 1) 2 (.slice (some ⟨g1, 0, none⟩) np cp) rfl)).trans (touch_set (S := fun k => k = w.heap.size + 1 + 1) _ (w.heap.size + 1 + 1) 3 (.int .i64 phase) rfl)).trans (touch_set (S := fun k => k = w.heap.size + 1 + 1) _ (w.heap.size + 1 + 1) 4 (.slice (some ⟨g2, 0, none⟩) ng cg) rfl)).trans (touch_set (S := fun k => k = w.heap.size + 1 + 1) _ (w.heap.size + 1 + 1) 5 (.slice (some ⟨g3, 0, none⟩) nb cb) rfl)).trans (touch_set (S := fun k => k = w.heap.size + 1 + 1) _ (w.heap.size + 1 + 1) 6 (.int .i64 cursor) rfl))
      refine bodyPost_ret (v := .agg #[.slice (some ⟨g0, 0, none⟩) n0 c0, .int .i64 head, .slice (some ⟨g1, 0, none⟩) np cp, .int .i64 phase, .slice (some ⟨g2, 0, none⟩) ng cg, .slice (some ⟨g3, 0, none⟩) nb cb, .int .i64 cursor]) (results_cell_row Tryz.results79 _ _ (w.heap.size + 1 + 1) _ _ _ _ rfl hX Tryz.underlying30 rfl (by kernel_rfl)) rfl ?_
      exact ⟨(Lay4 g0 n0 c0 g1 np cp g2 ng cg g3 nb cb), rfl, ⟨_, _, _, _, _, _, _, _, _, _, _, _, rfl⟩, OZ.out.boxed x1 hS, (BZ.out.trans (hS.mono (fun k e => .inr (by omega)))).mono (fun g h => h.imp (fun e => by simp [Value.ownBlock, e]) id)⟩
    · obtain ⟨q, rfl⟩ : ∃ q, ng = q + 1 := ⟨ng - 1, by omega⟩
      have hc : changeOne ⟨cs, head, pins, phase, grey, black, cursor⟩ ⟨7, xm, xb⟩ = ⟨cs, head, pins, phase, grey.take q, black, cursor⟩ := by simp [changeOne, hl2]
      rw [hc]
      have hd : decide (0 < q + 1) = true := decide_eq_true (by omega)
      have hwk : IntKind.i64.wrap (((q + 1 : Nat) : Int) - 1) = (q : Int) := by rw [IntKind.wrap_i64]; omega
      have hcg : q + 1 ≤ cg := O3.out.grey.cap_
      clear hc
      obtain ⟨wz, hwz⟩ : ∃ z, w3.setCell ⟨w.heap.size, 4, none⟩ (.slice (some ⟨g2, 0, none⟩) q cg) = z := ⟨_, rfl⟩
      have twz : Touch (fun k => k = w.heap.size) w3 wz := hwz ▸ touch_set (S := fun k => k = w.heap.size) w3 w.heap.size 4 (.slice (some ⟨g2, 0, none⟩) q cg) rfl
      have x0 : Box wz w.heap.size 30 #[.slice (some ⟨g0, 0, none⟩) n0 c0, .int .i64 head, .slice (some ⟨g1, 0, none⟩) np cp, .int .i64 phase, .slice (some ⟨g2, 0, none⟩) q cg, .slice (some ⟨g3, 0, none⟩) nb cb, .int .i64 cursor] := hwz ▸ X0.out.set_ 4 (.slice (some ⟨g2, 0, none⟩) q cg)
      have x1 : Box wz (w.heap.size + 1 + 1) 30 #[.slice none 0 0, .int .i64 0, .slice none 0 0, .int .i64 0, .slice none 0 0, .slice none 0 0, .int .i64 0] := (twz.block _ X1.out.lt (fun e => by omega)).trans X1.out
      have BZ := Lib.hid (B3.out.trans (twz.mono (fun k e => .inr (by omega))))
      have OZ := Lib.hid (show OwnBK wz lo (Lay4 g0 n0 c0 g1 np cp g2 q cg g3 nb cb) ⟨cs, head, pins, phase, grey.take q, black, cursor⟩ from ((⟨O3.out.cells, O3.out.pins, OwnI.short O3.out.grey, O3.out.black, fun g h1 h2 => O3.out.pg g h1 (by simpa [Lay4, Value.ownBlock] using h2), O3.out.pb, fun g h1 h2 => O3.out.gb g (by simpa [Lay4, Value.ownBlock] using h1) h2⟩ : OwnBK w3 lo (Lay4 g0 n0 c0 g1 np cp g2 q cg g3 nb cb) ⟨cs, head, pins, phase, grey.take q, black, cursor⟩).boxed X0.out twz))
      go_enter Tryz.func79, Tryz.ntmps79
      have u0 := x0.cell 0
      have u1 := x0.cell 1
      have u2 := x0.cell 2
      have u3 := x0.cell 3
      have u4 := x0.cell 4
      have u5 := x0.cell 5
      have u6 := x0.cell 6
      have r0 := x1.cell 0
      have r1 := x1.cell 1
      have r2 := x1.cell 2
      have r3 := x1.cell 3
      have r4 := x1.cell 4
      have r5 := x1.cell 5
      have r6 := x1.cell 6
      have f1 := x1.free
      simp at u0 r0 u1 r1 u2 r2 u3 r3 u4 r4 u5 r5 u6 r6
      go_wp2
      have hX := (((((((x1).set_ 0 (.slice (some ⟨g0, 0, none⟩) n0 c0)).set_ 1 (.int .i64 head)).set_ 2 (.slice (some ⟨g1, 0, none⟩) np cp)).set_ 3 (.int .i64 phase)).set_ 4 (.slice (some ⟨g2, 0, none⟩) q cg)).set_ 5 (.slice (some ⟨g3, 0, none⟩) nb cb)).set_ 6 (.int .i64 cursor)
      have hS : Touch (fun k => k = w.heap.size + 1 + 1) wz _ := (((((((touch_set (S := fun k => k = w.heap.size + 1 + 1) wz (w.heap.size + 1 + 1) 0 (.slice (some ⟨g0, 0, none⟩) n0 c0) rfl).trans (touch_set (S := fun k => k = w.heap.size + 1 + 1) _ (w.heap.size + 1 + 1) 1 (.int .i64 head) rfl)).trans (touch_set (S := fun k => k = w.heap.size + 1 + 1) _ (w.heap.size + 1 + 1) 2 (.slice (some ⟨g1, 0, none⟩) np cp) rfl)).trans (touch_set (S := fun k => k = w.heap.size + 1 + 1) _ (w.heap.size + 1 + 1) 3 (.int .i64 phase) rfl)).trans (touch_set (S := fun k => k = w.heap.size + 1 + 1) _ (w.heap.size + 1 + 1) 4 (.slice (some ⟨g2, 0, none⟩) q cg) rfl)).trans (touch_set (S := fun k => k = w.heap.size + 1 + 1) _ (w.heap.size + 1 + 1) 5 (.slice (some ⟨g3, 0, none⟩) nb cb) rfl)).trans (touch_set (S := fun k => k = w.heap.size + 1 + 1) _ (w.heap.size + 1 + 1) 6 (.int .i64 cursor) rfl))
      refine bodyPost_ret (v := .agg #[.slice (some ⟨g0, 0, none⟩) n0 c0, .int .i64 head, .slice (some ⟨g1, 0, none⟩) np cp, .int .i64 phase, .slice (some ⟨g2, 0, none⟩) q cg, .slice (some ⟨g3, 0, none⟩) nb cb, .int .i64 cursor]) (results_cell_row Tryz.results79 _ _ (w.heap.size + 1 + 1) _ _ _ _ rfl hX Tryz.underlying30 rfl (by kernel_rfl)) rfl ?_
      exact ⟨(Lay4 g0 n0 c0 g1 np cp g2 q cg g3 nb cb), rfl, ⟨_, _, _, _, _, _, _, _, _, _, _, _, rfl⟩, OZ.out.boxed x1 hS, (BZ.out.trans (hS.mono (fun k e => .inr (by omega)))).mono (fun g h => h.imp (fun e => by simp [Value.ownBlock, e]) id)⟩
  · by_cases hin : xm ∈ black
    · have hc : changeOne ⟨cs, head, pins, phase, grey, black, cursor⟩ ⟨8, xm, xb⟩ = ⟨cs, head, pins, phase, grey, black, cursor⟩ := by simp [changeOne, intoL, hin]
      rw [hc]
      have HIN := Lib.hid hin
      clear hc hin
      go_enter Tryz.func79, Tryz.ntmps79
      go_wp2_with fail
      refine (l4Into_any g3 nb cb black xm w3.heap.size w3 (by omega) hcap3 (Nat.le_refl _) O3.out.black.ints M4.out).mono ?_
      rintro e w4 ⟨b4, h4⟩
      rcases h4 with ⟨_, rfl⟩ | ⟨h4, _⟩
      case inr => exact absurd HIN.out h4
      have hs4 := b4.size
      have OW := Lib.hid (O3.out.below b4)
      have x0 := X0.out.below b4 X0.out.lt
      have x1 := X1.out.below b4 X1.out.lt
      have xc := XC.out.below b4 XC.out.lt
      have X0 := Lib.hid x0
      have X1 := Lib.hid x1
      have XC := Lib.hid xc
      have B4 := Lib.hid (B3.out.trans (Touch.of_below b4))
      have p0 := x0.cell 0
      have p1 := x0.cell 1
      have p2 := x0.cell 2
      have p3 := x0.cell 3
      have p4 := x0.cell 4
      have p5 := x0.cell 5
      have p6 := x0.cell 6
      have f0 := x0.free
      simp at p0 p1 p2 p3 p4 p5 p6
      obtain ⟨wz, hwz⟩ : ∃ z, w4.setCell ⟨w.heap.size, 5, none⟩ (.slice (some ⟨g3, 0, none⟩) nb cb) = z := ⟨_, rfl⟩
      have twz : Touch (fun k => k = w.heap.size) w4 wz := hwz ▸ touch_set (S := fun k => k = w.heap.size) w4 w.heap.size 5 (.slice (some ⟨g3, 0, none⟩) nb cb) rfl
      have x0 : Box wz w.heap.size 30 #[.slice (some ⟨g0, 0, none⟩) n0 c0, .int .i64 head, .slice (some ⟨g1, 0, none⟩) np cp, .int .i64 phase, .slice (some ⟨g2, 0, none⟩) ng cg, .slice (some ⟨g3, 0, none⟩) nb cb, .int .i64 cursor] := hwz ▸ X0.out.set_ 5 (.slice (some ⟨g3, 0, none⟩) nb cb)
      have x1 : Box wz (w.heap.size + 1 + 1) 30 #[.slice none 0 0, .int .i64 0, .slice none 0 0, .int .i64 0, .slice none 0 0, .slice none 0 0, .int .i64 0] := (twz.block _ X1.out.lt (fun e => by omega)).trans X1.out
      have BZ := Lib.hid (B4.out.trans (twz.mono (fun k e => .inr (by omega))))
      have OZ := Lib.hid (OW.out.boxed X0.out twz)
      clear OW b4
      have u0 := x0.cell 0
      have u1 := x0.cell 1
      have u2 := x0.cell 2
      have u3 := x0.cell 3
      have u4 := x0.cell 4
      have u5 := x0.cell 5
      have u6 := x0.cell 6
      have r0 := x1.cell 0
      have r1 := x1.cell 1
      have r2 := x1.cell 2
      have r3 := x1.cell 3
      have r4 := x1.cell 4
      have r5 := x1.cell 5
      have r6 := x1.cell 6
      have f1 := x1.free
      simp at u0 r0 u1 r1 u2 r2 u3 r3 u4 r4 u5 r5 u6 r6
      go_wp2
      have hX := (((((((x1).set_ 0 (.slice (some ⟨g0, 0, none⟩) n0 c0)).set_ 1 (.int .i64 head)).set_ 2 (.slice (some ⟨g1, 0, none⟩) np cp)).set_ 3 (.int .i64 phase)).set_ 4 (.slice (some ⟨g2, 0, none⟩) ng cg)).set_ 5 (.slice (some ⟨g3, 0, none⟩) nb cb)).set_ 6 (.int .i64 cursor)
      have hS : Touch (fun k => k = w.heap.size + 1 + 1) wz _ := (((((((touch_set (S := fun k => k = w.heap.size + 1 + 1) wz (w.heap.size + 1 + 1) 0 (.slice (some ⟨g0, 0, none⟩) n0 c0) rfl).trans (touch_set (S := fun k => k = w.heap.size + 1 + 1) _ (w.heap.size + 1 + 1) 1 (.int .i64 head) rfl)).trans (touch_set (S := fun k => k = w.heap.size + 1 + 1) _ (w.heap.size + 1 + 1) 2 (.slice (some ⟨g1, 0, none⟩) np cp) rfl)).trans (touch_set (S := fun k => k = w.heap.size + 1 + 1) _ (w.heap.size + 1 + 1) 3 (.int .i64 phase) rfl)).trans (touch_set (S := fun k => k = w.heap.size + 1 + 1) _ (w.heap.size + 1 + 1) 4 (.slice (some ⟨g2, 0, none⟩) ng cg) rfl)).trans (touch_set (S := fun k => k = w.heap.size + 1 + 1) _ (w.heap.size + 1 + 1) 5 (.slice (some ⟨g3, 0, none⟩) nb cb) rfl)).trans (touch_set (S := fun k => k = w.heap.size + 1 + 1) _ (w.heap.size + 1 + 1) 6 (.int .i64 cursor) rfl))
      refine bodyPost_ret (v := .agg #[.slice (some ⟨g0, 0, none⟩) n0 c0, .int .i64 head, .slice (some ⟨g1, 0, none⟩) np cp, .int .i64 phase, .slice (some ⟨g2, 0, none⟩) ng cg, .slice (some ⟨g3, 0, none⟩) nb cb, .int .i64 cursor]) (results_cell_row Tryz.results79 _ _ (w.heap.size + 1 + 1) _ _ _ _ rfl hX Tryz.underlying30 rfl (by kernel_rfl)) rfl ?_
      exact ⟨(Lay4 g0 n0 c0 g1 np cp g2 ng cg g3 nb cb), rfl, ⟨_, _, _, _, _, _, _, _, _, _, _, _, rfl⟩, OZ.out.boxed x1 hS, (BZ.out.trans (hS.mono (fun k e => .inr (by omega)))).mono (fun g h => h.imp (fun e => by simp [Value.ownBlock, e]) id)⟩
    · have hc : changeOne ⟨cs, head, pins, phase, grey, black, cursor⟩ ⟨8, xm, xb⟩ = ⟨cs, head, pins, phase, grey, insI black xm, cursor⟩ := by simp [changeOne, intoL, hin]
      rw [hc]
      have HIN := Lib.hid hin
      clear hc hin
      go_enter Tryz.func79, Tryz.ntmps79
      go_wp2_with fail
      refine (l4Into_any g3 nb cb black xm w3.heap.size w3 (by omega) hcap3 (Nat.le_refl _) O3.out.black.ints M4.out).mono ?_
      rintro e w4 ⟨b4, h4⟩
      rcases h4 with ⟨h4, _⟩ | ⟨_, g4, c4, rfl, o4⟩
      case inl => exact absurd h4 HIN.out
      have hg4 := (World.ownsRow.lt o4 g4 (by simp [Value.ownBlock])).1
      have hs4 := b4.size
      have OW := Lib.hid (O3.out.below b4)
      have x0 := X0.out.below b4 X0.out.lt
      have x1 := X1.out.below b4 X1.out.lt
      have xc := XC.out.below b4 XC.out.lt
      have X0 := Lib.hid x0
      have X1 := Lib.hid x1
      have XC := Lib.hid xc
      have B4 := Lib.hid (B3.out.trans (Touch.of_below b4))
      have n12 := N12.out
      have n13 := N13.out
      have n23 := N23.out
      have e1 := G1.out
      have e2 := G2.out
      have e3 := G3.out
      have p0 := x0.cell 0
      have p1 := x0.cell 1
      have p2 := x0.cell 2
      have p3 := x0.cell 3
      have p4 := x0.cell 4
      have p5 := x0.cell 5
      have p6 := x0.cell 6
      have f0 := x0.free
      simp at p0 p1 p2 p3 p4 p5 p6
      obtain ⟨wz, hwz⟩ : ∃ z, w4.setCell ⟨w.heap.size, 5, none⟩ (.slice (some ⟨g4, 0, none⟩) (nb + 1) (c4)) = z := ⟨_, rfl⟩
      have twz : Touch (fun k => k = w.heap.size) w4 wz := hwz ▸ touch_set (S := fun k => k = w.heap.size) w4 w.heap.size 5 (.slice (some ⟨g4, 0, none⟩) (nb + 1) (c4)) rfl
      have x0 : Box wz w.heap.size 30 #[.slice (some ⟨g0, 0, none⟩) n0 c0, .int .i64 head, .slice (some ⟨g1, 0, none⟩) np cp, .int .i64 phase, .slice (some ⟨g2, 0, none⟩) ng cg, .slice (some ⟨g4, 0, none⟩) (nb + 1) (c4), .int .i64 cursor] := hwz ▸ X0.out.set_ 5 (.slice (some ⟨g4, 0, none⟩) (nb + 1) (c4))
      have x1 : Box wz (w.heap.size + 1 + 1) 30 #[.slice none 0 0, .int .i64 0, .slice none 0 0, .int .i64 0, .slice none 0 0, .slice none 0 0, .int .i64 0] := (twz.block _ X1.out.lt (fun e => by omega)).trans X1.out
      have BZ := Lib.hid (B4.out.trans (twz.mono (fun k e => .inr (by omega))))
      have OZ := Lib.hid (show OwnBK wz lo (Lay4 g0 n0 c0 g1 np cp g2 ng cg g4 (nb + 1) c4) ⟨cs, head, pins, phase, grey, insI black xm, cursor⟩ from (⟨OW.out.cells, OW.out.pins, OW.out.grey, OwnI.base o4 (by omega), OW.out.pg, (fun g h1 h2 => by have k1 := own_blk' h1; have k2 := own_blk' h2; omega), (fun g h1 h2 => by have k1 := own_blk' h1; have k2 := own_blk' h2; omega)⟩ : OwnBK w4 lo (Lay4 g0 n0 c0 g1 np cp g2 ng cg g4 (nb + 1) c4) ⟨cs, head, pins, phase, grey, insI black xm, cursor⟩).boxed X0.out twz)
      clear OW b4 o4
      have u0 := x0.cell 0
      have u1 := x0.cell 1
      have u2 := x0.cell 2
      have u3 := x0.cell 3
      have u4 := x0.cell 4
      have u5 := x0.cell 5
      have u6 := x0.cell 6
      have r0 := x1.cell 0
      have r1 := x1.cell 1
      have r2 := x1.cell 2
      have r3 := x1.cell 3
      have r4 := x1.cell 4
      have r5 := x1.cell 5
      have r6 := x1.cell 6
      have f1 := x1.free
      simp at u0 r0 u1 r1 u2 r2 u3 r3 u4 r4 u5 r5 u6 r6
      go_wp2
      have hX := (((((((x1).set_ 0 (.slice (some ⟨g0, 0, none⟩) n0 c0)).set_ 1 (.int .i64 head)).set_ 2 (.slice (some ⟨g1, 0, none⟩) np cp)).set_ 3 (.int .i64 phase)).set_ 4 (.slice (some ⟨g2, 0, none⟩) ng cg)).set_ 5 (.slice (some ⟨g4, 0, none⟩) (nb + 1) (c4))).set_ 6 (.int .i64 cursor)
      have hS : Touch (fun k => k = w.heap.size + 1 + 1) wz _ := (((((((touch_set (S := fun k => k = w.heap.size + 1 + 1) wz (w.heap.size + 1 + 1) 0 (.slice (some ⟨g0, 0, none⟩) n0 c0) rfl).trans (touch_set (S := fun k => k = w.heap.size + 1 + 1) _ (w.heap.size + 1 + 1) 1 (.int .i64 head) rfl)).trans (touch_set (S := fun k => k = w.heap.size + 1 + 1) _ (w.heap.size + 1 + 1) 2 (.slice (some ⟨g1, 0, none⟩) np cp) rfl)).trans (touch_set (S := fun k => k = w.heap.size + 1 + 1) _ (w.heap.size + 1 + 1) 3 (.int .i64 phase) rfl)).trans (touch_set (S := fun k => k = w.heap.size + 1 + 1) _ (w.heap.size + 1 + 1) 4 (.slice (some ⟨g2, 0, none⟩) ng cg) rfl)).trans (touch_set (S := fun k => k = w.heap.size + 1 + 1) _ (w.heap.size + 1 + 1) 5 (.slice (some ⟨g4, 0, none⟩) (nb + 1) (c4)) rfl)).trans (touch_set (S := fun k => k = w.heap.size + 1 + 1) _ (w.heap.size + 1 + 1) 6 (.int .i64 cursor) rfl))
      refine bodyPost_ret (v := .agg #[.slice (some ⟨g0, 0, none⟩) n0 c0, .int .i64 head, .slice (some ⟨g1, 0, none⟩) np cp, .int .i64 phase, .slice (some ⟨g2, 0, none⟩) ng cg, .slice (some ⟨g4, 0, none⟩) (nb + 1) (c4), .int .i64 cursor]) (results_cell_row Tryz.results79 _ _ (w.heap.size + 1 + 1) _ _ _ _ rfl hX Tryz.underlying30 rfl (by kernel_rfl)) rfl ?_
      exact ⟨(Lay4 g0 n0 c0 g1 np cp g2 ng cg g4 (nb + 1) c4), rfl, ⟨_, _, _, _, _, _, _, _, _, _, _, _, rfl⟩, OZ.out.boxed x1 hS, (BZ.out.trans (hS.mono (fun k e => .inr (by omega)))).mono (fun g h => h.imp (fun e => by simp [Value.ownBlock, e]) id)⟩
  · have hc : changeOne ⟨cs, head, pins, phase, grey, black, cursor⟩ ⟨9, xm, xb⟩ = ⟨cs, head, pins, xm, grey, black, cursor⟩ := by simp [changeOne]
    rw [hc]
    clear hc
    obtain ⟨wz, hwz⟩ : ∃ z, w3.setCell ⟨w.heap.size, 3, none⟩ (.int .i64 xm) = z := ⟨_, rfl⟩
    have twz : Touch (fun k => k = w.heap.size) w3 wz := hwz ▸ touch_set (S := fun k => k = w.heap.size) w3 w.heap.size 3 (.int .i64 xm) rfl
    have x0 : Box wz w.heap.size 30 #[.slice (some ⟨g0, 0, none⟩) n0 c0, .int .i64 head, .slice (some ⟨g1, 0, none⟩) np cp, .int .i64 xm, .slice (some ⟨g2, 0, none⟩) ng cg, .slice (some ⟨g3, 0, none⟩) nb cb, .int .i64 cursor] := hwz ▸ X0.out.set_ 3 (.int .i64 xm)
    have x1 : Box wz (w.heap.size + 1 + 1) 30 #[.slice none 0 0, .int .i64 0, .slice none 0 0, .int .i64 0, .slice none 0 0, .slice none 0 0, .int .i64 0] := (twz.block _ X1.out.lt (fun e => by omega)).trans X1.out
    have BZ := Lib.hid (B3.out.trans (twz.mono (fun k e => .inr (by omega))))
    have OZ := Lib.hid (show OwnBK wz lo (Lay4 g0 n0 c0 g1 np cp g2 ng cg g3 nb cb) ⟨cs, head, pins, xm, grey, black, cursor⟩ from (by have h := O3.out.boxed X0.out twz; exact ⟨h.cells, h.pins, h.grey, h.black, h.pg, h.pb, h.gb⟩))
    go_enter Tryz.func79, Tryz.ntmps79
    have u0 := x0.cell 0
    have u1 := x0.cell 1
    have u2 := x0.cell 2
    have u3 := x0.cell 3
    have u4 := x0.cell 4
    have u5 := x0.cell 5
    have u6 := x0.cell 6
    have r0 := x1.cell 0
    have r1 := x1.cell 1
    have r2 := x1.cell 2
    have r3 := x1.cell 3
    have r4 := x1.cell 4
    have r5 := x1.cell 5
    have r6 := x1.cell 6
    have f1 := x1.free
    simp at u0 r0 u1 r1 u2 r2 u3 r3 u4 r4 u5 r5 u6 r6
    go_wp2
    have hX := (((((((x1).set_ 0 (.slice (some ⟨g0, 0, none⟩) n0 c0)).set_ 1 (.int .i64 head)).set_ 2 (.slice (some ⟨g1, 0, none⟩) np cp)).set_ 3 (.int .i64 xm)).set_ 4 (.slice (some ⟨g2, 0, none⟩) ng cg)).set_ 5 (.slice (some ⟨g3, 0, none⟩) nb cb)).set_ 6 (.int .i64 cursor)
    have hS : Touch (fun k => k = w.heap.size + 1 + 1) wz _ := (((((((touch_set (S := fun k => k = w.heap.size + 1 + 1) wz (w.heap.size + 1 + 1) 0 (.slice (some ⟨g0, 0, none⟩) n0 c0) rfl).trans (touch_set (S := fun k => k = w.heap.size + 1 + 1) _ (w.heap.size + 1 + 1) 1 (.int .i64 head) rfl)).trans (touch_set (S := fun k => k = w.heap.size + 1 + 1) _ (w.heap.size + 1 + 1) 2 (.slice (some ⟨g1, 0, none⟩) np cp) rfl)).trans (touch_set (S := fun k => k = w.heap.size + 1 + 1) _ (w.heap.size + 1 + 1) 3 (.int .i64 xm) rfl)).trans (touch_set (S := fun k => k = w.heap.size + 1 + 1) _ (w.heap.size + 1 + 1) 4 (.slice (some ⟨g2, 0, none⟩) ng cg) rfl)).trans (touch_set (S := fun k => k = w.heap.size + 1 + 1) _ (w.heap.size + 1 + 1) 5 (.slice (some ⟨g3, 0, none⟩) nb cb) rfl)).trans (touch_set (S := fun k => k = w.heap.size + 1 + 1) _ (w.heap.size + 1 + 1) 6 (.int .i64 cursor) rfl))
    refine bodyPost_ret (v := .agg #[.slice (some ⟨g0, 0, none⟩) n0 c0, .int .i64 head, .slice (some ⟨g1, 0, none⟩) np cp, .int .i64 xm, .slice (some ⟨g2, 0, none⟩) ng cg, .slice (some ⟨g3, 0, none⟩) nb cb, .int .i64 cursor]) (results_cell_row Tryz.results79 _ _ (w.heap.size + 1 + 1) _ _ _ _ rfl hX Tryz.underlying30 rfl (by kernel_rfl)) rfl ?_
    exact ⟨(Lay4 g0 n0 c0 g1 np cp g2 ng cg g3 nb cb), rfl, ⟨_, _, _, _, _, _, _, _, _, _, _, _, rfl⟩, OZ.out.boxed x1 hS, (BZ.out.trans (hS.mono (fun k e => .inr (by omega)))).mono (fun g h => h.imp (fun e => by simp [Value.ownBlock, e]) id)⟩
  · have hc : changeOne ⟨cs, head, pins, phase, grey, black, cursor⟩ ⟨10, xm, xb⟩ = ⟨cs, head, pins, phase, grey, black, xm⟩ := by simp [changeOne]
    rw [hc]
    clear hc
    obtain ⟨wz, hwz⟩ : ∃ z, w3.setCell ⟨w.heap.size, 6, none⟩ (.int .i64 xm) = z := ⟨_, rfl⟩
    have twz : Touch (fun k => k = w.heap.size) w3 wz := hwz ▸ touch_set (S := fun k => k = w.heap.size) w3 w.heap.size 6 (.int .i64 xm) rfl
    have x0 : Box wz w.heap.size 30 #[.slice (some ⟨g0, 0, none⟩) n0 c0, .int .i64 head, .slice (some ⟨g1, 0, none⟩) np cp, .int .i64 phase, .slice (some ⟨g2, 0, none⟩) ng cg, .slice (some ⟨g3, 0, none⟩) nb cb, .int .i64 xm] := hwz ▸ X0.out.set_ 6 (.int .i64 xm)
    have x1 : Box wz (w.heap.size + 1 + 1) 30 #[.slice none 0 0, .int .i64 0, .slice none 0 0, .int .i64 0, .slice none 0 0, .slice none 0 0, .int .i64 0] := (twz.block _ X1.out.lt (fun e => by omega)).trans X1.out
    have BZ := Lib.hid (B3.out.trans (twz.mono (fun k e => .inr (by omega))))
    have OZ := Lib.hid (show OwnBK wz lo (Lay4 g0 n0 c0 g1 np cp g2 ng cg g3 nb cb) ⟨cs, head, pins, phase, grey, black, xm⟩ from (by have h := O3.out.boxed X0.out twz; exact ⟨h.cells, h.pins, h.grey, h.black, h.pg, h.pb, h.gb⟩))
    go_enter Tryz.func79, Tryz.ntmps79
    have u0 := x0.cell 0
    have u1 := x0.cell 1
    have u2 := x0.cell 2
    have u3 := x0.cell 3
    have u4 := x0.cell 4
    have u5 := x0.cell 5
    have u6 := x0.cell 6
    have r0 := x1.cell 0
    have r1 := x1.cell 1
    have r2 := x1.cell 2
    have r3 := x1.cell 3
    have r4 := x1.cell 4
    have r5 := x1.cell 5
    have r6 := x1.cell 6
    have f1 := x1.free
    simp at u0 r0 u1 r1 u2 r2 u3 r3 u4 r4 u5 r5 u6 r6
    go_wp2
    have hX := (((((((x1).set_ 0 (.slice (some ⟨g0, 0, none⟩) n0 c0)).set_ 1 (.int .i64 head)).set_ 2 (.slice (some ⟨g1, 0, none⟩) np cp)).set_ 3 (.int .i64 phase)).set_ 4 (.slice (some ⟨g2, 0, none⟩) ng cg)).set_ 5 (.slice (some ⟨g3, 0, none⟩) nb cb)).set_ 6 (.int .i64 xm)
    have hS : Touch (fun k => k = w.heap.size + 1 + 1) wz _ := (((((((touch_set (S := fun k => k = w.heap.size + 1 + 1) wz (w.heap.size + 1 + 1) 0 (.slice (some ⟨g0, 0, none⟩) n0 c0) rfl).trans (touch_set (S := fun k => k = w.heap.size + 1 + 1) _ (w.heap.size + 1 + 1) 1 (.int .i64 head) rfl)).trans (touch_set (S := fun k => k = w.heap.size + 1 + 1) _ (w.heap.size + 1 + 1) 2 (.slice (some ⟨g1, 0, none⟩) np cp) rfl)).trans (touch_set (S := fun k => k = w.heap.size + 1 + 1) _ (w.heap.size + 1 + 1) 3 (.int .i64 phase) rfl)).trans (touch_set (S := fun k => k = w.heap.size + 1 + 1) _ (w.heap.size + 1 + 1) 4 (.slice (some ⟨g2, 0, none⟩) ng cg) rfl)).trans (touch_set (S := fun k => k = w.heap.size + 1 + 1) _ (w.heap.size + 1 + 1) 5 (.slice (some ⟨g3, 0, none⟩) nb cb) rfl)).trans (touch_set (S := fun k => k = w.heap.size + 1 + 1) _ (w.heap.size + 1 + 1) 6 (.int .i64 xm) rfl))
    refine bodyPost_ret (v := .agg #[.slice (some ⟨g0, 0, none⟩) n0 c0, .int .i64 head, .slice (some ⟨g1, 0, none⟩) np cp, .int .i64 phase, .slice (some ⟨g2, 0, none⟩) ng cg, .slice (some ⟨g3, 0, none⟩) nb cb, .int .i64 xm]) (results_cell_row Tryz.results79 _ _ (w.heap.size + 1 + 1) _ _ _ _ rfl hX Tryz.underlying30 rfl (by kernel_rfl)) rfl ?_
    exact ⟨(Lay4 g0 n0 c0 g1 np cp g2 ng cg g3 nb cb), rfl, ⟨_, _, _, _, _, _, _, _, _, _, _, _, rfl⟩, OZ.out.boxed x1 hS, (BZ.out.trans (hS.mono (fun k e => .inr (by omega)))).mono (fun g h => h.imp (fun e => by simp [Value.ownBlock, e]) id)⟩
  · have hc : changeOne ⟨cs, head, pins, phase, grey, black, cursor⟩ ⟨11, xm, xb⟩ = ⟨cs, head, pins, phase, [], [], cursor⟩ := by simp [changeOne]
    rw [hc]
    clear hc
    obtain ⟨wa, hwa⟩ : ∃ z, w3.alloc (.cells #[] 2) = z := ⟨_, rfl⟩
    have b4 : Below w3.heap.size w3 wa := hwa ▸ (Below.refl _ _).alloc (Nat.le_refl _) _
    have o4 : OwnI wa w3.heap.size (some ⟨w3.heap.size, 0, none⟩) 0 0 [] := hwa ▸ OwnI.empty w3 w3.heap.size (Nat.le_refl _)
    have hsa : w3.heap.size < wa.heap.size := by rw [← hwa]; simp
    have OW := Lib.hid (O3.out.below b4)
    have x0 := X0.out.below b4 X0.out.lt
    have x1 := X1.out.below b4 X1.out.lt
    have xc := XC.out.below b4 XC.out.lt
    have X0 := Lib.hid x0
    have X1 := Lib.hid x1
    have XC := Lib.hid xc
    have B4 := Lib.hid (B3.out.trans (Touch.of_below b4))
    have n12 := N12.out
    have n13 := N13.out
    have n23 := N23.out
    have e1 := G1.out
    have e2 := G2.out
    have e3 := G3.out
    obtain ⟨wy, hwy⟩ : ∃ z, wa.setCell ⟨w.heap.size, 4, none⟩ (.slice (some ⟨w3.heap.size, 0, none⟩) 0 0) = z := ⟨_, rfl⟩
    have twy : Touch (fun k => k = w.heap.size) wa wy := hwy ▸ touch_set (S := fun k => k = w.heap.size) wa w.heap.size 4 (.slice (some ⟨w3.heap.size, 0, none⟩) 0 0) rfl
    have x0 : Box wy w.heap.size 30 #[.slice (some ⟨g0, 0, none⟩) n0 c0, .int .i64 head, .slice (some ⟨g1, 0, none⟩) np cp, .int .i64 phase, .slice (some ⟨w3.heap.size, 0, none⟩) 0 0, .slice (some ⟨g3, 0, none⟩) nb cb, .int .i64 cursor] := hwy ▸ X0.out.set_ 4 (.slice (some ⟨w3.heap.size, 0, none⟩) 0 0)
    have x1 : Box wy (w.heap.size + 1 + 1) 30 #[.slice none 0 0, .int .i64 0, .slice none 0 0, .int .i64 0, .slice none 0 0, .slice none 0 0, .int .i64 0] := (twy.block _ X1.out.lt (fun e => by omega)).trans X1.out
    have BZ := Lib.hid (B4.out.trans (twy.mono (fun k e => .inr (by omega))))
    have OY := Lib.hid (show OwnBK wy lo (Lay4 g0 n0 c0 g1 np cp w3.heap.size 0 0 g3 nb cb) ⟨cs, head, pins, phase, [], black, cursor⟩ from ((⟨OW.out.cells, OW.out.pins, OwnI.base o4 (by omega), OW.out.black, (fun g h1 h2 => by have k1 := own_blk' h1; have k2 := own_blk' h2; omega), OW.out.pb, (fun g h1 h2 => by have k1 := own_blk' h1; have k2 := own_blk' h2; omega)⟩ : OwnBK wa lo (Lay4 g0 n0 c0 g1 np cp w3.heap.size 0 0 g3 nb cb) ⟨cs, head, pins, phase, [], black, cursor⟩).boxed X0.out twy))
    have BY := BZ
    have hsy : wa.heap.size ≤ wy.heap.size := twy.size
    have Y0 := Lib.hid x0
    have Y1 := Lib.hid x1
    clear b4 o4 OW twy BZ x0 x1
    obtain ⟨wb, hwb⟩ : ∃ z, wy.alloc (.cells #[] 2) = z := ⟨_, rfl⟩
    have b5 : Below wy.heap.size wy wb := hwb ▸ (Below.refl _ _).alloc (Nat.le_refl _) _
    have o5 : OwnI wb wy.heap.size (some ⟨wy.heap.size, 0, none⟩) 0 0 [] := hwb ▸ OwnI.empty wy wy.heap.size (Nat.le_refl _)
    have x0p := X0.out
    have XA0 := X0
    have x0 := Y0.out.below b5 Y0.out.lt
    have x1 := Y1.out.below b5 Y1.out.lt
    have X0 := Lib.hid x0
    have X1 := Lib.hid x1
    have OW := Lib.hid (OY.out.below b5)
    have B5 := Lib.hid (BY.out.trans (Touch.of_below b5))
    have u0a := XA0.out.free
    have fq := x0.free
    have pp0 := X0.out.cell 0
    have pp1 := X0.out.cell 1
    have pp2 := X0.out.cell 2
    have pp3 := X0.out.cell 3
    have pp4 := X0.out.cell 4
    have pp5 := X0.out.cell 5
    have pp6 := X0.out.cell 6
    have ff0 := X0.out.free
    simp at pp0 pp1 pp2 pp3 pp4 pp5 pp6
    have pa0 := XA0.out.cell 0
    have pa1 := XA0.out.cell 1
    have pa2 := XA0.out.cell 2
    have pa3 := XA0.out.cell 3
    have pa4 := XA0.out.cell 4
    have pa5 := XA0.out.cell 5
    have pa6 := XA0.out.cell 6
    have fa0 := XA0.out.free
    simp at pa0 pa1 pa2 pa3 pa4 pa5 pa6
    obtain ⟨wz, hwz⟩ : ∃ z, wb.setCell ⟨w.heap.size, 5, none⟩ (.slice (some ⟨wy.heap.size, 0, none⟩) 0 0) = z := ⟨_, rfl⟩
    have twz : Touch (fun k => k = w.heap.size) wb wz := hwz ▸ touch_set (S := fun k => k = w.heap.size) wb w.heap.size 5 (.slice (some ⟨wy.heap.size, 0, none⟩) 0 0) rfl
    have x0 : Box wz w.heap.size 30 #[.slice (some ⟨g0, 0, none⟩) n0 c0, .int .i64 head, .slice (some ⟨g1, 0, none⟩) np cp, .int .i64 phase, .slice (some ⟨w3.heap.size, 0, none⟩) 0 0, .slice (some ⟨wy.heap.size, 0, none⟩) 0 0, .int .i64 cursor] := hwz ▸ X0.out.set_ 5 (.slice (some ⟨wy.heap.size, 0, none⟩) 0 0)
    have x1 : Box wz (w.heap.size + 1 + 1) 30 #[.slice none 0 0, .int .i64 0, .slice none 0 0, .int .i64 0, .slice none 0 0, .slice none 0 0, .int .i64 0] := (twz.block _ X1.out.lt (fun e => by omega)).trans X1.out
    have BZ := Lib.hid (B5.out.trans (twz.mono (fun k e => .inr (by omega))))
    have OZ := Lib.hid (show OwnBK wz lo (Lay4 g0 n0 c0 g1 np cp w3.heap.size 0 0 wy.heap.size 0 0) ⟨cs, head, pins, phase, [], [], cursor⟩ from ((⟨OW.out.cells, OW.out.pins, OW.out.grey, OwnI.base o5 (by omega), OW.out.pg, (fun g h1 h2 => by have k1 := own_blk' h1; have k2 := own_blk' h2; omega), (fun g h1 h2 => by have k1 := own_blk' h1; have k2 := own_blk' h2; omega)⟩ : OwnBK wb lo (Lay4 g0 n0 c0 g1 np cp w3.heap.size 0 0 wy.heap.size 0 0) ⟨cs, head, pins, phase, [], [], cursor⟩).boxed X0.out twz))
    clear o5 b5 OW
    have S3 := Lib.hid s3
    clear s3
    go_enter Tryz.func79, Tryz.ntmps79
    have u0 := x0.cell 0
    have u1 := x0.cell 1
    have u2 := x0.cell 2
    have u3 := x0.cell 3
    have u4 := x0.cell 4
    have u5 := x0.cell 5
    have u6 := x0.cell 6
    have r0 := x1.cell 0
    have r1 := x1.cell 1
    have r2 := x1.cell 2
    have r3 := x1.cell 3
    have r4 := x1.cell 4
    have r5 := x1.cell 5
    have r6 := x1.cell 6
    have f1 := x1.free
    simp at u0 r0 u1 r1 u2 r2 u3 r3 u4 r4 u5 r5 u6 r6
    go_wp2
    have hX := (((((((x1).set_ 0 (.slice (some ⟨g0, 0, none⟩) n0 c0)).set_ 1 (.int .i64 head)).set_ 2 (.slice (some ⟨g1, 0, none⟩) np cp)).set_ 3 (.int .i64 phase)).set_ 4 (.slice (some ⟨w3.heap.size, 0, none⟩) 0 0)).set_ 5 (.slice (some ⟨wy.heap.size, 0, none⟩) 0 0)).set_ 6 (.int .i64 cursor)
    have hS : Touch (fun k => k = w.heap.size + 1 + 1) wz _ := (((((((touch_set (S := fun k => k = w.heap.size + 1 + 1) wz (w.heap.size + 1 + 1) 0 (.slice (some ⟨g0, 0, none⟩) n0 c0) rfl).trans (touch_set (S := fun k => k = w.heap.size + 1 + 1) _ (w.heap.size + 1 + 1) 1 (.int .i64 head) rfl)).trans (touch_set (S := fun k => k = w.heap.size + 1 + 1) _ (w.heap.size + 1 + 1) 2 (.slice (some ⟨g1, 0, none⟩) np cp) rfl)).trans (touch_set (S := fun k => k = w.heap.size + 1 + 1) _ (w.heap.size + 1 + 1) 3 (.int .i64 phase) rfl)).trans (touch_set (S := fun k => k = w.heap.size + 1 + 1) _ (w.heap.size + 1 + 1) 4 (.slice (some ⟨w3.heap.size, 0, none⟩) 0 0) rfl)).trans (touch_set (S := fun k => k = w.heap.size + 1 + 1) _ (w.heap.size + 1 + 1) 5 (.slice (some ⟨wy.heap.size, 0, none⟩) 0 0) rfl)).trans (touch_set (S := fun k => k = w.heap.size + 1 + 1) _ (w.heap.size + 1 + 1) 6 (.int .i64 cursor) rfl))
    refine bodyPost_ret (v := .agg #[.slice (some ⟨g0, 0, none⟩) n0 c0, .int .i64 head, .slice (some ⟨g1, 0, none⟩) np cp, .int .i64 phase, .slice (some ⟨w3.heap.size, 0, none⟩) 0 0, .slice (some ⟨wy.heap.size, 0, none⟩) 0 0, .int .i64 cursor]) (results_cell_row Tryz.results79 _ _ (w.heap.size + 1 + 1) _ _ _ _ rfl hX Tryz.underlying30 rfl (by kernel_rfl)) rfl ?_
    exact ⟨(Lay4 g0 n0 c0 g1 np cp w3.heap.size 0 0 wy.heap.size 0 0), rfl, ⟨_, _, _, _, _, _, _, _, _, _, _, _, rfl⟩, OZ.out.boxed x1 hS, (BZ.out.trans (hS.mono (fun k e => .inr (by omega)))).mono (fun g h => h.imp (fun e => by simp [Value.ownBlock, e]) id)⟩
end Go.Proofs.YtigdcmfmaehjfaaGreat

-- ChgAP: The model's ChangedAll.
namespace Go.Proofs.YtigdcmfmaehjfaaGreat
set_option maxRecDepth 20000
set_option linter.unusedVariables false
set_option linter.unusedSimpArgs false
open Go.RowKit

theorem foldl_take (b : MBase) (l : List MChg) (k : Nat) (hk : k < l.length) : (l.take (k + 1)).foldl changeOne b = changeOne ((l.take k).foldl changeOne b) (cx l k) := by
  rw [cx_take l k hk, List.foldl_append]
  rfl
/-- the answer of ChangedAll of a right base. -/
def GaveAll (b : MBase) (l : List MChg) (w : World) (e : Ending) (w' : World) : Prop :=
  ∃ L y r, e = .returned (.tuple #[BLay.v L y, .bool r]) ∧ AllIs b l y r ∧ OwnBK w' w.heap.size L y ∧ Below w.heap.size w w'
theorem good_pos {b : MBase} (h : BaseGood b) (i : Nat) (hi : i < b.cells.length) : 0 < (cel b.cells i).2.length := by
  have := isNode_len (h.1.cells.2 i hi).1
  omega
theorem OwnBK.fit2 {w : World} {lo k : Nat} {L : BLay} {b : MBase} (h : OwnBK w lo L b) (hm : MidOk k b) (hk : k ≤ 200) : BaseFit L b := by
  have e0 := h.cells.len
  have e1 := h.pins.len
  have e2 := h.grey.len
  have e3 := h.black.len
  have a0 := hm.n
  have a1 := hm.np
  have a2 := hm.ng
  have a3 := hm.nb
  exact ⟨by omega, hm.small.cl, h.cells.cap, h.pins.cap_, h.grey.cap_, h.black.cap_, h.cells.nilc, h.pins.nilc, h.grey.nilc, h.black.nilc⟩
set_option maxHeartbeats 3200000 in
theorem l13All_any (L : BLay) (b : MBase) (A : Option Addr) (n c : Nat) (l : List MChg) (B : Nat) (w : World) (fit : BaseFit L b) (hn : n ≤ 1048576) (hcap : n ≤ c) (hl : ∀ i, (cx l i).bytes.length ≤ 1048576) (good : BaseGood b) (hB : B ≤ w.heap.size) (hb : BaseIn w B L b) (hc : Chs w B A n l) :
    Calls Tryz.prog 47 #[L.v b, .slice A n c] w (GaveAll b l w) := by
  have FIT := Lib.hid fit
  have HB0 := Lib.hid (hb.more hB)
  have HC0 := Lib.hid (hc.more hB)
  have hsum := fit.sum
  have hlen := hb.cells.1
  have hlc := hc.1
  have GD := Lib.hid good
  have CEL := Lib.hid fit.cell
  have HL := Lib.hid hl
  have MID0 := Lib.hid (good_mid good (SmallC.of fit.cell))
  obtain ⟨w2, hw2⟩ : ∃ w2, (w.alloc (.cells #[.slice L.A L.n L.c, .int .i64 b.head, .slice L.Ap L.np L.cp, .int .i64 b.phase, .slice L.Ag L.ng L.cg, .slice L.Ab L.nb L.cb, .int .i64 b.cursor] 30)).alloc (.cells #[.slice none 0 0, .int .i64 0, .slice none 0 0, .int .i64 0, .slice none 0 0, .slice none 0 0, .int .i64 0] 30) = w2 := ⟨_, rfl⟩
  have x0 : Box w2 w.heap.size _ _ := hw2 ▸ heap2_0 _ _ _
  have x1 : Box w2 (w.heap.size + 1) _ _ := hw2 ▸ heap2_1 _ _ _
  have s2 : w2.heap.size = w.heap.size + 2 := hw2 ▸ size2 _ _ _
  have b2 : Below w.heap.size w w2 := hw2 ▸ below2 _ _ _
  have X0 := Lib.hid x0
  have X1 := Lib.hid x1
  have B2 := Lib.hid b2
  have q0 := x0.cell 0
  have q1 := x0.cell 1
  have q2 := x0.cell 2
  have q3 := x0.cell 3
  have q4 := x0.cell 4
  have q5 := x0.cell 5
  have q6 := x0.cell 6
  simp at q0 q1 q2 q3 q4 q5 q6
  clear x0 x1 b2 hl good fit hb hc
  unfold BLay.v
  go_enter Tryz.func47, Tryz.ntmps47
  go_wp2_with fail
  refine (l13Copy_any L b w.heap.size w2 (by omega) CEL.out (fun i hi => good_pos GD.out i (by omega)) FIT.out.zp FIT.out.zg FIT.out.zb (by omega) (HB0.out.below B2.out)).mono ?_
  rintro e w3 ⟨Lc, rfl, hsol, ob, b3⟩
  have s3 : w2.heap.size ≤ w3.heap.size := b3.size
  have SOL := Lib.hid hsol
  obtain ⟨w4, hw4⟩ : ∃ w4, w3.alloc (.cells #[.slice Lc.A Lc.n Lc.c, .int .i64 b.head, .slice Lc.Ap Lc.np Lc.cp, .int .i64 b.phase, .slice Lc.Ag Lc.ng Lc.cg, .slice Lc.Ab Lc.nb Lc.cb, .int .i64 b.cursor] 30) = w4 := ⟨_, rfl⟩
  have xo : Box w4 w3.heap.size _ _ := hw4 ▸ heap_alloc_new _ _
  have b34 : Below w3.heap.size w3 w4 := hw4 ▸ (Below.refl _ _).alloc (Nat.le_refl _) _
  have s4 : w3.heap.size < w4.heap.size := xo.lt
  have OC := Lib.hid (ob.below b34)
  have B4 := Lib.hid (b3.trans (b34.mono s3))
  have XO := Lib.hid xo
  clear hsol ob b3 b34 xo q0 q1 q2 q3 q4 q5 q6
  unfold BLay.v
  by_cases h200 : 200 < n
  · have hd : decide ((200 : Int) < (n : Int)) = true := decide_eq_true (by omega)
    have NO := Lib.hid (show AllIs b l b false from .inr (.inl ⟨GD.out, fun h => by have := h.1; omega, rfl, rfl⟩))
    have xr := X1.out.below B4.out (by omega)
    have BY := Lib.hid (B2.out.trans (B4.out.mono (by omega)))
    have p0 := XO.out.cell 0
    have p1 := XO.out.cell 1
    have p2 := XO.out.cell 2
    have p3 := XO.out.cell 3
    have p4 := XO.out.cell 4
    have p5 := XO.out.cell 5
    have p6 := XO.out.cell 6
    simp at p0 p1 p2 p3 p4 p5 p6
    have r0 := xr.cell 0
    have r1 := xr.cell 1
    have r2 := xr.cell 2
    have r3 := xr.cell 3
    have r4 := xr.cell 4
    have r5 := xr.cell 5
    have r6 := xr.cell 6
    have fr := xr.free
    simp at r0 r1 r2 r3 r4 r5 r6
    go_wp2
    have hX := (((((((xr).set_ 0 (.slice Lc.A Lc.n Lc.c)).set_ 1 (.int .i64 b.head)).set_ 2 (.slice Lc.Ap Lc.np Lc.cp)).set_ 3 (.int .i64 b.phase)).set_ 4 (.slice Lc.Ag Lc.ng Lc.cg)).set_ 5 (.slice Lc.Ab Lc.nb Lc.cb)).set_ 6 (.int .i64 b.cursor)
    have hS : Touch (fun k => k = w.heap.size + 1) w4 _ := (((((((touch_set (S := fun k => k = w.heap.size + 1) w4 (w.heap.size + 1) 0 (.slice Lc.A Lc.n Lc.c) rfl).trans (touch_set (S := fun k => k = w.heap.size + 1) _ (w.heap.size + 1) 1 (.int .i64 b.head) rfl)).trans (touch_set (S := fun k => k = w.heap.size + 1) _ (w.heap.size + 1) 2 (.slice Lc.Ap Lc.np Lc.cp) rfl)).trans (touch_set (S := fun k => k = w.heap.size + 1) _ (w.heap.size + 1) 3 (.int .i64 b.phase) rfl)).trans (touch_set (S := fun k => k = w.heap.size + 1) _ (w.heap.size + 1) 4 (.slice Lc.Ag Lc.ng Lc.cg) rfl)).trans (touch_set (S := fun k => k = w.heap.size + 1) _ (w.heap.size + 1) 5 (.slice Lc.Ab Lc.nb Lc.cb) rfl)).trans (touch_set (S := fun k => k = w.heap.size + 1) _ (w.heap.size + 1) 6 (.int .i64 b.cursor) rfl))
    refine bodyPost_ret (v := .tuple #[.agg #[.slice Lc.A Lc.n Lc.c, .int .i64 b.head, .slice Lc.Ap Lc.np Lc.cp, .int .i64 b.phase, .slice Lc.Ag Lc.ng Lc.cg, .slice Lc.Ab Lc.nb Lc.cb, .int .i64 b.cursor], .bool false]) (results_box2 Tryz.results47 _ _ (w.heap.size + 1) _ _ _ _ rfl rfl hX Tryz.underlying30 rfl (by kernel_rfl)) rfl ?_
    exact ⟨Lc, b, false, rfl, NO.out, OwnBK.base (OC.out.boxed xr hS) (by omega), BY.out.trans (hS.below BY.out.size (fun k hk e => by omega))⟩
  have hd : decide ((200 : Int) < (n : Int)) = false := decide_eq_false (by omega)
  go_wp2
  go_loopw [7] (fun i wr => ∃ (k : Nat) (L' : BLay) (y : MBase), k ≤ n ∧ i = .int .i64 k ∧ y = (l.take k).foldl changeOne b ∧ Solid L' ∧ MidOk k y ∧ (∀ j, j < k → ChgOk (cx l j)) ∧ Box wr w3.heap.size 30 #[.slice L'.A L'.n L'.c, .int .i64 y.head, .slice L'.Ap L'.np L'.cp, .int .i64 y.phase, .slice L'.Ag L'.ng L'.cg, .slice L'.Ab L'.nb L'.cb, .int .i64 y.cursor] ∧ OwnBK wr w2.heap.size L' y ∧ Below w2.heap.size w2 wr) (fun i _ => n - (intOf i).toNat)
  case atStart => exact ⟨0, Lc, b, Nat.zero_le _, rfl, rfl, SOL.out, MID0.out, fun j hj => by omega, XO.out, OC.out, B4.out⟩
  case round =>
    obtain ⟨k, L', y, hk, rfl, hy, hsol, hmid, hok, hbox, hown, hbel⟩ := hrel
    have YE := Lib.hid hy
    have SL := Lib.hid hsol
    have MD := Lib.hid hmid
    have OK := Lib.hid hok
    have XO := Lib.hid hbox
    have OW := Lib.hid hown
    have BR := Lib.hid hbel
    have hsr : w2.heap.size ≤ wr.heap.size := hbel.size
    have hol : w3.heap.size < wr.heap.size := hbox.lt
    have HCR := Lib.hid (HC0.out.below (B2.out.trans (hbel.mono (by omega))))
    clear hy hsol hmid hok hbox hown hbel
    by_cases hlt : k < n
    · obtain ⟨bb, boff, Ai, ni, ci, hAe, hbB, h0, h1, h2, hnc, hAn, hy⟩ := HCR.out.at_ hlt
      subst hAe
      have hni := hy.1
      have hft := foldl_take b l k (by omega)
      have hnm := HL.out k
      obtain ⟨x, hx⟩ : ∃ x, cx l k = x := ⟨_, rfl⟩
      rw [hx] at h0 h1 hy hft hnm hni
      have HX := Lib.hid hx
      have HY := Lib.hid hy
      have FT := Lib.hid hft
      clear hx hft hy
      go_wp2_with fail
      refine (specChangeOk_any x Ai ni ci w.heap.size wr (by omega) hnc (by omega) HY.out).mono ?_
      rintro e w5 ⟨r, rfl, hr, b5⟩
      have HR := Lib.hid hr
      have s5 : wr.heap.size ≤ w5.heap.size := b5.size
      have B5 := Lib.hid (BR.out.trans (b5.mono hsr))
      have XO5 := Lib.hid (XO.out.below b5 hol)
      have OW5 := Lib.hid (OW.out.below b5)
      have HY5 := Lib.hid (HY.out.below (b5.mono (by omega)))
      have h0 := (b5.cell (p := ⟨bb, boff + k * 3, none⟩) (show bb < wr.heap.size by omega)).trans h0
      have h1 := (b5.cell (p := ⟨bb, boff + k * 3 + 1, none⟩) (show bb < wr.heap.size by omega)).trans h1
      have h2 := (b5.cell (p := ⟨bb, boff + k * 3 + 2, none⟩) (show bb < wr.heap.size by omega)).trans h2
      clear hr b5
      cases r with
      | false =>
        have NO := Lib.hid (show AllIs b l b false from .inr (.inl ⟨GD.out, fun h => by
          have h3 := h.2.1 x (by rw [← HX.out]; unfold cx; rw [List.getElem?_eq_getElem (by omega)]; exact List.getElem_mem _)
          exact absurd (HR.out.2 h3) (by simp), rfl, rfl⟩))
        have XB := Lib.hid (X0.out.below B5.out (by omega))
        have xr := X1.out.below B5.out (by omega)
        have XR := Lib.hid xr
        have q0 := XB.out.cell 0
        have q1 := XB.out.cell 1
        have q2 := XB.out.cell 2
        have q3 := XB.out.cell 3
        have q4 := XB.out.cell 4
        have q5 := XB.out.cell 5
        have q6 := XB.out.cell 6
        simp at q0 q1 q2 q3 q4 q5 q6
        go_wp2_with fail
        refine (l13Copy_any L b w.heap.size w5 (by omega) CEL.out (fun i hi => good_pos GD.out i (by omega)) FIT.out.zp FIT.out.zg FIT.out.zb (by have := B5.out.size; omega) ((HB0.out.below (B2.out.trans (B5.out.mono (by omega)))))).mono ?_
        rintro e wy ⟨Ly, rfl, _, oy, by_⟩
        have hsy : w5.heap.size ≤ wy.heap.size := by_.size
        have hsw : w2.heap.size ≤ w5.heap.size := B5.out.size
        have xr := XR.out.below by_ (by omega)
        have OY := Lib.hid oy
        have BY := Lib.hid ((B2.out.trans (B5.out.mono (by omega))).trans (by_.mono (by omega)))
        clear oy by_ q0 q1 q2 q3 q4 q5 q6
        unfold BLay.v
        have r0 := xr.cell 0
        have r1 := xr.cell 1
        have r2 := xr.cell 2
        have r3 := xr.cell 3
        have r4 := xr.cell 4
        have r5 := xr.cell 5
        have r6 := xr.cell 6
        have fr := xr.free
        simp at r0 r1 r2 r3 r4 r5 r6
        go_wp2
        have hX := (((((((xr).set_ 0 (.slice Ly.A Ly.n Ly.c)).set_ 1 (.int .i64 b.head)).set_ 2 (.slice Ly.Ap Ly.np Ly.cp)).set_ 3 (.int .i64 b.phase)).set_ 4 (.slice Ly.Ag Ly.ng Ly.cg)).set_ 5 (.slice Ly.Ab Ly.nb Ly.cb)).set_ 6 (.int .i64 b.cursor)
        have hS : Touch (fun k => k = w.heap.size + 1) wy _ := (((((((touch_set (S := fun k => k = w.heap.size + 1) wy (w.heap.size + 1) 0 (.slice Ly.A Ly.n Ly.c) rfl).trans (touch_set (S := fun k => k = w.heap.size + 1) _ (w.heap.size + 1) 1 (.int .i64 b.head) rfl)).trans (touch_set (S := fun k => k = w.heap.size + 1) _ (w.heap.size + 1) 2 (.slice Ly.Ap Ly.np Ly.cp) rfl)).trans (touch_set (S := fun k => k = w.heap.size + 1) _ (w.heap.size + 1) 3 (.int .i64 b.phase) rfl)).trans (touch_set (S := fun k => k = w.heap.size + 1) _ (w.heap.size + 1) 4 (.slice Ly.Ag Ly.ng Ly.cg) rfl)).trans (touch_set (S := fun k => k = w.heap.size + 1) _ (w.heap.size + 1) 5 (.slice Ly.Ab Ly.nb Ly.cb) rfl)).trans (touch_set (S := fun k => k = w.heap.size + 1) _ (w.heap.size + 1) 6 (.int .i64 b.cursor) rfl))
        refine bodyPost_ret (v := .tuple #[.agg #[.slice Ly.A Ly.n Ly.c, .int .i64 b.head, .slice Ly.Ap Ly.np Ly.cp, .int .i64 b.phase, .slice Ly.Ag Ly.ng Ly.cg, .slice Ly.Ab Ly.nb Ly.cb, .int .i64 b.cursor], .bool false]) (results_box2 Tryz.results47 _ _ (w.heap.size + 1) _ _ _ _ rfl rfl hX Tryz.underlying30 rfl (by kernel_rfl)) rfl ?_
        exact ⟨Ly, b, false, rfl, NO.out, OwnBK.base (OY.out.boxed xr hS) (by omega), BY.out.trans (hS.below BY.out.size (fun k hk e => by omega))⟩
      | true =>
        have CO := Lib.hid (HR.out.1 (by trivial))
        go_wp2
        have p0 := XO5.out.cell 0
        have p1 := XO5.out.cell 1
        have p2 := XO5.out.cell 2
        have p3 := XO5.out.cell 3
        have p4 := XO5.out.cell 4
        have p5 := XO5.out.cell 5
        have p6 := XO5.out.cell 6
        simp at p0 p1 p2 p3 p4 p5 p6
        go_still_tail 5, (by kernel_rfl)
        change wpList _ _ _ _ _ w5.drew
        have BD := Lib.hid (B5.out.drew)
        have OWD := Lib.hid (show OwnBK w5.drew w2.heap.size L' y from OW5.out.below ((Below.refl _ _).drew))
        have XOD := Lib.hid (show Box w5.drew w3.heap.size 30 #[.slice L'.A L'.n L'.c, .int .i64 y.head, .slice L'.Ap L'.np L'.cp, .int .i64 y.phase, .slice L'.Ag L'.ng L'.cg, .slice L'.Ab L'.nb L'.cb, .int .i64 y.cursor] from XO5.out)
        have HYD := Lib.hid (show Byts w5.drew w.heap.size Ai ni x.bytes from HY5.out.drew)
        have hsz : w5.drew.heap.size = w5.heap.size := rfl
        generalize w5.drew = w6 at BD OWD XOD HYD hsz
        clear p0 p1 p2 p3 p4 p5 p6 h0 h1 h2
        have h28 : ni ≤ 1048576 := by omega
        go_wp2_with fail
        refine (l13Change_any L' y x Ai ni ci w2.heap.size w.heap.size k w6 SL.out OWD.out MD.out (by omega) CO.out h28 (by omega) (by omega) HYD.out).mono ?_
        rintro e w7 ⟨L7, rfl, hs7, o7, t7⟩
        have s7 : w6.heap.size ≤ w7.heap.size := t7.size
        have xo7 : Box w7 w3.heap.size _ _ := (t7.block _ (by omega) (fun e => e.elim (fun e => box_notI XOD.out OWD.out.grey e) (fun e => by omega))).trans XOD.out
        have B7 := Lib.hid (BD.out.trans (t7.below (by omega) (fun g hg e => e.elim (fun e => by have := (World.ownsRow.lt OWD.out.grey g e).1; omega) (fun e => by omega))))
        have O7 := Lib.hid o7
        have S7 := Lib.hid hs7
        have XO7 := Lib.hid xo7
        have MD7 := Lib.hid (MD.out.step (c := x) (by omega))
        have p0 := xo7.cell 0
        have p1 := xo7.cell 1
        have p2 := xo7.cell 2
        have p3 := xo7.cell 3
        have p4 := xo7.cell 4
        have p5 := xo7.cell 5
        have p6 := xo7.cell 6
        simp at p0 p1 p2 p3 p4 p5 p6
        have fo := xo7.free
        clear o7 t7 hs7 xo7
        unfold BLay.v
        obtain ⟨Y, hY⟩ : ∃ Y, changeOne y x = Y := ⟨_, rfl⟩
        rw [hY] at O7 MD7
        rw [hY]
        have HYY := Lib.hid hY
        clear hY
        obtain ⟨wz, hwz⟩ : ∃ z, (((((((w7.setCell ⟨w3.heap.size, 0, none⟩ (.slice L7.A L7.n L7.c)).setCell ⟨w3.heap.size, 1, none⟩ (.int .i64 Y.head)).setCell ⟨w3.heap.size, 2, none⟩ (.slice L7.Ap L7.np L7.cp)).setCell ⟨w3.heap.size, 3, none⟩ (.int .i64 Y.phase)).setCell ⟨w3.heap.size, 4, none⟩ (.slice L7.Ag L7.ng L7.cg)).setCell ⟨w3.heap.size, 5, none⟩ (.slice L7.Ab L7.nb L7.cb)).setCell ⟨w3.heap.size, 6, none⟩ (.int .i64 Y.cursor)) = z := ⟨_, rfl⟩
        have tz : Touch (fun g => g = w3.heap.size) w7 wz := hwz ▸ (((((((touch_set (S := fun g => g = w3.heap.size) w7 w3.heap.size 0 (.slice L7.A L7.n L7.c) rfl).trans (touch_set (S := fun g => g = w3.heap.size) _ w3.heap.size 1 (.int .i64 Y.head) rfl)).trans (touch_set (S := fun g => g = w3.heap.size) _ w3.heap.size 2 (.slice L7.Ap L7.np L7.cp) rfl)).trans (touch_set (S := fun g => g = w3.heap.size) _ w3.heap.size 3 (.int .i64 Y.phase) rfl)).trans (touch_set (S := fun g => g = w3.heap.size) _ w3.heap.size 4 (.slice L7.Ag L7.ng L7.cg) rfl)).trans (touch_set (S := fun g => g = w3.heap.size) _ w3.heap.size 5 (.slice L7.Ab L7.nb L7.cb) rfl)).trans (touch_set (S := fun g => g = w3.heap.size) _ w3.heap.size 6 (.int .i64 Y.cursor) rfl))
        have xz : Box wz w3.heap.size 30 #[.slice L7.A L7.n L7.c, .int .i64 Y.head, .slice L7.Ap L7.np L7.cp, .int .i64 Y.phase, .slice L7.Ag L7.ng L7.cg, .slice L7.Ab L7.nb L7.cb, .int .i64 Y.cursor] := hwz ▸ (((((((XO7.out).set_ 0 (.slice L7.A L7.n L7.c)).set_ 1 (.int .i64 Y.head)).set_ 2 (.slice L7.Ap L7.np L7.cp)).set_ 3 (.int .i64 Y.phase)).set_ 4 (.slice L7.Ag L7.ng L7.cg)).set_ 5 (.slice L7.Ab L7.nb L7.cb)).set_ 6 (.int .i64 Y.cursor)
        have OZ := Lib.hid (O7.out.boxed XO7.out tz)
        have BZ := Lib.hid (B7.out.trans (tz.below (by omega) (fun g hg e => by omega)))
        have XZ := Lib.hid xz
        clear xz tz
        go_wp2
        go_roundw
        case rel =>
          refine ⟨k + 1, L7, Y, by omega, by go_num, by rw [FT.out, ← YE.out, HYY.out], S7.out, MD7.out, fun j hj => ?_, XZ.out, OZ.out, BZ.out⟩
          rcases Nat.lt_or_ge j k with h | h
          · exact OK.out j h
          · rw [show j = k by omega, HX.out]; exact CO.out
        case measure => simp [intOf]; omega
    · obtain rfl : k = n := by omega
      have hyl : l.foldl changeOne b = y := by rw [YE.out, List.take_of_length_le (by omega)]
      have HYL := Lib.hid hyl
      have hall : ∀ x, x ∈ l → ChgOk x := fun x hx => by
        obtain ⟨i, hi, rfl⟩ := List.mem_iff_getElem.1 hx
        have h := OK.out i (by omega)
        unfold cx at h
        rw [List.getElem?_eq_getElem hi] at h
        exact h
      have HA := Lib.hid hall
      clear hyl hall
      have p0 := XO.out.cell 0
      have p1 := XO.out.cell 1
      have p2 := XO.out.cell 2
      have p3 := XO.out.cell 3
      have p4 := XO.out.cell 4
      have p5 := XO.out.cell 5
      have p6 := XO.out.cell 6
      simp at p0 p1 p2 p3 p4 p5 p6
      go_wp2_with fail
      refine (specBaseOk_any L' y wr.heap.size wr (OW.out.fit2 MD.out (by omega)) (Nat.le_refl _) OW.out.inn).mono ?_
      rintro e w5 ⟨r, rfl, hr, b5⟩
      have HR := Lib.hid hr
      have s5 : wr.heap.size ≤ w5.heap.size := b5.size
      have B5 := Lib.hid (BR.out.trans (b5.mono hsr))
      have XO5 := Lib.hid (XO.out.below b5 hol)
      have OW5 := Lib.hid (OW.out.below b5)
      clear hr b5 p0 p1 p2 p3 p4 p5 p6
      cases r with
      | false =>
        have NO := Lib.hid (show AllIs b l b false from .inr (.inl ⟨GD.out, fun h => by
          have h3 := h.2.2
          rw [HYL.out] at h3
          exact absurd (HR.out.2 h3) (by simp), rfl, rfl⟩))
        have XB := Lib.hid (X0.out.below B5.out (by omega))
        have xr := X1.out.below B5.out (by omega)
        have XR := Lib.hid xr
        have q0 := XB.out.cell 0
        have q1 := XB.out.cell 1
        have q2 := XB.out.cell 2
        have q3 := XB.out.cell 3
        have q4 := XB.out.cell 4
        have q5 := XB.out.cell 5
        have q6 := XB.out.cell 6
        simp at q0 q1 q2 q3 q4 q5 q6
        go_wp2_with fail
        refine (l13Copy_any L b w.heap.size w5 (by omega) CEL.out (fun i hi => good_pos GD.out i (by omega)) FIT.out.zp FIT.out.zg FIT.out.zb (by have := B5.out.size; omega) ((HB0.out.below (B2.out.trans (B5.out.mono (by omega)))))).mono ?_
        rintro e wy ⟨Ly, rfl, _, oy, by_⟩
        have hsy : w5.heap.size ≤ wy.heap.size := by_.size
        have hsw : w2.heap.size ≤ w5.heap.size := B5.out.size
        have xr := XR.out.below by_ (by omega)
        have OY := Lib.hid oy
        have BY := Lib.hid ((B2.out.trans (B5.out.mono (by omega))).trans (by_.mono (by omega)))
        clear oy by_ q0 q1 q2 q3 q4 q5 q6
        unfold BLay.v
        have r0 := xr.cell 0
        have r1 := xr.cell 1
        have r2 := xr.cell 2
        have r3 := xr.cell 3
        have r4 := xr.cell 4
        have r5 := xr.cell 5
        have r6 := xr.cell 6
        have fr := xr.free
        simp at r0 r1 r2 r3 r4 r5 r6
        go_wp2
        have hX := (((((((xr).set_ 0 (.slice Ly.A Ly.n Ly.c)).set_ 1 (.int .i64 b.head)).set_ 2 (.slice Ly.Ap Ly.np Ly.cp)).set_ 3 (.int .i64 b.phase)).set_ 4 (.slice Ly.Ag Ly.ng Ly.cg)).set_ 5 (.slice Ly.Ab Ly.nb Ly.cb)).set_ 6 (.int .i64 b.cursor)
        have hS : Touch (fun k => k = w.heap.size + 1) wy _ := (((((((touch_set (S := fun k => k = w.heap.size + 1) wy (w.heap.size + 1) 0 (.slice Ly.A Ly.n Ly.c) rfl).trans (touch_set (S := fun k => k = w.heap.size + 1) _ (w.heap.size + 1) 1 (.int .i64 b.head) rfl)).trans (touch_set (S := fun k => k = w.heap.size + 1) _ (w.heap.size + 1) 2 (.slice Ly.Ap Ly.np Ly.cp) rfl)).trans (touch_set (S := fun k => k = w.heap.size + 1) _ (w.heap.size + 1) 3 (.int .i64 b.phase) rfl)).trans (touch_set (S := fun k => k = w.heap.size + 1) _ (w.heap.size + 1) 4 (.slice Ly.Ag Ly.ng Ly.cg) rfl)).trans (touch_set (S := fun k => k = w.heap.size + 1) _ (w.heap.size + 1) 5 (.slice Ly.Ab Ly.nb Ly.cb) rfl)).trans (touch_set (S := fun k => k = w.heap.size + 1) _ (w.heap.size + 1) 6 (.int .i64 b.cursor) rfl))
        refine bodyPost_ret (v := .tuple #[.agg #[.slice Ly.A Ly.n Ly.c, .int .i64 b.head, .slice Ly.Ap Ly.np Ly.cp, .int .i64 b.phase, .slice Ly.Ag Ly.ng Ly.cg, .slice Ly.Ab Ly.nb Ly.cb, .int .i64 b.cursor], .bool false]) (results_box2 Tryz.results47 _ _ (w.heap.size + 1) _ _ _ _ rfl rfl hX Tryz.underlying30 rfl (by kernel_rfl)) rfl ?_
        exact ⟨Ly, b, false, rfl, NO.out, OwnBK.base (OY.out.boxed xr hS) (by omega), BY.out.trans (hS.below BY.out.size (fun k hk e => by omega))⟩
      | true =>
        have YES := Lib.hid (show AllIs b l y true from .inl ⟨GD.out, by omega, HA.out, by rw [HYL.out]; exact HR.out.1 (by trivial), HYL.out.symm, rfl⟩)
        have xr := X1.out.below B5.out (by omega)
        have BY := Lib.hid (B2.out.trans (B5.out.mono (by omega)))
        have p0 := XO5.out.cell 0
        have p1 := XO5.out.cell 1
        have p2 := XO5.out.cell 2
        have p3 := XO5.out.cell 3
        have p4 := XO5.out.cell 4
        have p5 := XO5.out.cell 5
        have p6 := XO5.out.cell 6
        simp at p0 p1 p2 p3 p4 p5 p6
        have r0 := xr.cell 0
        have r1 := xr.cell 1
        have r2 := xr.cell 2
        have r3 := xr.cell 3
        have r4 := xr.cell 4
        have r5 := xr.cell 5
        have r6 := xr.cell 6
        have fr := xr.free
        simp at r0 r1 r2 r3 r4 r5 r6
        go_wp2
        have hX := (((((((xr).set_ 0 (.slice L'.A L'.n L'.c)).set_ 1 (.int .i64 y.head)).set_ 2 (.slice L'.Ap L'.np L'.cp)).set_ 3 (.int .i64 y.phase)).set_ 4 (.slice L'.Ag L'.ng L'.cg)).set_ 5 (.slice L'.Ab L'.nb L'.cb)).set_ 6 (.int .i64 y.cursor)
        have hS : Touch (fun k => k = w.heap.size + 1) w5 _ := (((((((touch_set (S := fun k => k = w.heap.size + 1) w5 (w.heap.size + 1) 0 (.slice L'.A L'.n L'.c) rfl).trans (touch_set (S := fun k => k = w.heap.size + 1) _ (w.heap.size + 1) 1 (.int .i64 y.head) rfl)).trans (touch_set (S := fun k => k = w.heap.size + 1) _ (w.heap.size + 1) 2 (.slice L'.Ap L'.np L'.cp) rfl)).trans (touch_set (S := fun k => k = w.heap.size + 1) _ (w.heap.size + 1) 3 (.int .i64 y.phase) rfl)).trans (touch_set (S := fun k => k = w.heap.size + 1) _ (w.heap.size + 1) 4 (.slice L'.Ag L'.ng L'.cg) rfl)).trans (touch_set (S := fun k => k = w.heap.size + 1) _ (w.heap.size + 1) 5 (.slice L'.Ab L'.nb L'.cb) rfl)).trans (touch_set (S := fun k => k = w.heap.size + 1) _ (w.heap.size + 1) 6 (.int .i64 y.cursor) rfl))
        refine bodyPost_ret (v := .tuple #[.agg #[.slice L'.A L'.n L'.c, .int .i64 y.head, .slice L'.Ap L'.np L'.cp, .int .i64 y.phase, .slice L'.Ag L'.ng L'.cg, .slice L'.Ab L'.nb L'.cb, .int .i64 y.cursor], .bool true]) (results_box2 Tryz.results47 _ _ (w.heap.size + 1) _ _ _ _ rfl rfl hX Tryz.underlying30 rfl (by kernel_rfl)) rfl ?_
        exact ⟨L', y, true, rfl, YES.out, OwnBK.base (OW5.out.boxed xr hS) (by omega), BY.out.trans (hS.below BY.out.size (fun k hk e => by omega))⟩

theorem OwnBK.zero (w : World) (lo : Nat) : OwnBK w lo ⟨none, 0, 0, none, 0, 0, none, 0, 0, none, 0, 0⟩ ⟨[], 0, [], 0, [], [], 0⟩ :=
  ⟨OwnC.nil w lo w.heap.size, OwnI.nil w lo, OwnI.nil w lo, OwnI.nil w lo, fun g h => by simp [Value.ownBlock] at h, fun g h => by simp [Value.ownBlock] at h, fun g h => by simp [Value.ownBlock] at h⟩
set_option maxHeartbeats 1600000 in
theorem specChangedAll_any (L : BLay) (b : MBase) (A : Option Addr) (n c : Nat) (l : List MChg) (B : Nat) (w : World) (fit : BaseFit L b) (hB : B ≤ w.heap.size) (hb : BaseIn w B L b) (hn : n ≤ 1048576) (hcap : n ≤ c) (hl : ∀ i, (cx l i).bytes.length ≤ 1048576) (hc : Chs w B A n l) :
    Calls Tryz.prog 19 #[L.v b, .slice A n c] w (GaveAll b l w) := by
  have FIT := Lib.hid fit
  have HB0 := Lib.hid (hb.more hB)
  have hsum := fit.sum
  have HCH := Lib.hid (hc.more hB)
  obtain ⟨w1, hw1⟩ : ∃ w1, (w.alloc (.cells #[.slice L.A L.n L.c, .int .i64 b.head, .slice L.Ap L.np L.cp, .int .i64 b.phase, .slice L.Ag L.ng L.cg, .slice L.Ab L.nb L.cb, .int .i64 b.cursor] 30)).alloc (.cells #[.slice none 0 0, .int .i64 0, .slice none 0 0, .int .i64 0, .slice none 0 0, .slice none 0 0, .int .i64 0] 30) = w1 := ⟨_, rfl⟩
  have x1 : Box w1 w.heap.size _ _ := hw1 ▸ heap2_0 _ _ _
  have b1 : Below w.heap.size w w1 := hw1 ▸ below2 _ _ _
  have s1e : w1.heap.size = w.heap.size + 2 := hw1 ▸ size2 _ _ _
  have xr1 : Box w1 (w.heap.size + 1) _ _ := hw1 ▸ heap2_1 _ _ _
  have XR1 := Lib.hid xr1
  have X1 := Lib.hid x1
  have B1 := Lib.hid b1
  have HB := Lib.hid (HB0.out.below b1)
  have s1 : w.heap.size ≤ w1.heap.size := b1.size
  have hxl : w.heap.size < w1.heap.size := x1.lt
  have hcell : ∀ W, Below w1.heap.size w1 W → ∀ k, W.cell? ⟨w.heap.size, k, none⟩ = (#[.slice L.A L.n L.c, .int .i64 b.head, .slice L.Ap L.np L.cp, .int .i64 b.phase, .slice L.Ag L.ng L.cg, .slice L.Ab L.nb L.cb, .int .i64 b.cursor] : Array Value)[k]? := fun W hW k => (X1.out.below hW hxl).cell k
  have CE := Lib.hid hcell
  have q0 : w1.cell? ⟨w.heap.size, 0, none⟩ = some (.slice L.A L.n L.c) := by simpa using hcell w1 (Below.refl _ _) 0
  have q1 : w1.cell? ⟨w.heap.size, 1, none⟩ = some (.int .i64 b.head) := by simpa using hcell w1 (Below.refl _ _) 1
  have q2 : w1.cell? ⟨w.heap.size, 2, none⟩ = some (.slice L.Ap L.np L.cp) := by simpa using hcell w1 (Below.refl _ _) 2
  have q3 : w1.cell? ⟨w.heap.size, 3, none⟩ = some (.int .i64 b.phase) := by simpa using hcell w1 (Below.refl _ _) 3
  have q4 : w1.cell? ⟨w.heap.size, 4, none⟩ = some (.slice L.Ag L.ng L.cg) := by simpa using hcell w1 (Below.refl _ _) 4
  have q5 : w1.cell? ⟨w.heap.size, 5, none⟩ = some (.slice L.Ab L.nb L.cb) := by simpa using hcell w1 (Below.refl _ _) 5
  have q6 : w1.cell? ⟨w.heap.size, 6, none⟩ = some (.int .i64 b.cursor) := by simpa using hcell w1 (Below.refl _ _) 6
  clear x1 b1 HB0 hcell hb fit
  unfold BLay.v
  go_enter Tryz.func19, Tryz.ntmps19
  go_wp2_with fail
  refine (specBaseOk_any L b w.heap.size w1 FIT.out s1 HB.out).mono ?_
  rintro e w2 ⟨r, rfl, hr, b2⟩
  have HR := Lib.hid hr
  have B2 := Lib.hid b2
  have s2 : w1.heap.size ≤ w2.heap.size := b2.size
  have HB2 := Lib.hid (HB.out.below (b2.mono s1))
  have BW := Lib.hid (B1.out.trans (b2.mono s1))
  clear hr b2 q0 q1 q2 q3 q4 q5 q6
  have q0 : w2.cell? ⟨w.heap.size, 0, none⟩ = some (.slice L.A L.n L.c) := by simpa using CE.out w2 B2.out 0
  have q1 : w2.cell? ⟨w.heap.size, 1, none⟩ = some (.int .i64 b.head) := by simpa using CE.out w2 B2.out 1
  have q2 : w2.cell? ⟨w.heap.size, 2, none⟩ = some (.slice L.Ap L.np L.cp) := by simpa using CE.out w2 B2.out 2
  have q3 : w2.cell? ⟨w.heap.size, 3, none⟩ = some (.int .i64 b.phase) := by simpa using CE.out w2 B2.out 3
  have q4 : w2.cell? ⟨w.heap.size, 4, none⟩ = some (.slice L.Ag L.ng L.cg) := by simpa using CE.out w2 B2.out 4
  have q5 : w2.cell? ⟨w.heap.size, 5, none⟩ = some (.slice L.Ab L.nb L.cb) := by simpa using CE.out w2 B2.out 5
  have q6 : w2.cell? ⟨w.heap.size, 6, none⟩ = some (.int .i64 b.cursor) := by simpa using CE.out w2 B2.out 6
  cases r with
  | false =>
    have NO := Lib.hid (fun h => absurd (HR.out.2 h) (by simp) : ¬ BaseGood b)
    have xr := XR1.out.below B2.out (by omega)
    have r0 := xr.cell 0
    have r1 := xr.cell 1
    have r2 := xr.cell 2
    have r3 := xr.cell 3
    have r4 := xr.cell 4
    have r5 := xr.cell 5
    have r6 := xr.cell 6
    have fr := xr.free
    simp at r0 r1 r2 r3 r4 r5 r6
    go_wp2
    have hX := (((((((xr).set_ 0 (.slice none 0 0)).set_ 1 (.int .i64 0)).set_ 2 (.slice none 0 0)).set_ 3 (.int .i64 0)).set_ 4 (.slice none 0 0)).set_ 5 (.slice none 0 0)).set_ 6 (.int .i64 0)
    have hS : Touch (fun k => k = w.heap.size + 1) w2 _ := (((((((touch_set (S := fun k => k = w.heap.size + 1) w2 (w.heap.size + 1) 0 (.slice none 0 0) rfl).trans (touch_set (S := fun k => k = w.heap.size + 1) _ (w.heap.size + 1) 1 (.int .i64 0) rfl)).trans (touch_set (S := fun k => k = w.heap.size + 1) _ (w.heap.size + 1) 2 (.slice none 0 0) rfl)).trans (touch_set (S := fun k => k = w.heap.size + 1) _ (w.heap.size + 1) 3 (.int .i64 0) rfl)).trans (touch_set (S := fun k => k = w.heap.size + 1) _ (w.heap.size + 1) 4 (.slice none 0 0) rfl)).trans (touch_set (S := fun k => k = w.heap.size + 1) _ (w.heap.size + 1) 5 (.slice none 0 0) rfl)).trans (touch_set (S := fun k => k = w.heap.size + 1) _ (w.heap.size + 1) 6 (.int .i64 0) rfl))
    refine bodyPost_ret (v := .tuple #[.agg #[.slice none 0 0, .int .i64 0, .slice none 0 0, .int .i64 0, .slice none 0 0, .slice none 0 0, .int .i64 0], .bool false]) (results_box2 Tryz.results19 _ _ (w.heap.size + 1) _ _ _ _ rfl rfl hX Tryz.underlying30 rfl (by kernel_rfl)) rfl ?_
    exact ⟨_, _, false, rfl, .inr (.inr ⟨NO.out, rfl, rfl⟩), OwnBK.zero _ _, BW.out.trans (hS.below BW.out.size (fun k hk e => by omega))⟩
  | true =>
    have GB := Lib.hid (HR.out.1 (by trivial))
    go_wp2_with fail
    refine (l13All_any L b A n c l w.heap.size w2 FIT.out hn hcap hl GB.out (by omega) HB2.out (HCH.out.below BW.out)).mono ?_
    rintro e w3 ⟨L3, y, rr, rfl, ha, o3, b3⟩
    have HA := Lib.hid ha
    have O3 := Lib.hid o3
    have B3 := Lib.hid (BW.out.trans (b3.mono (by omega)))
    have xr := XR1.out.below (B2.out.trans (b3.mono s2)) (by omega)
    clear ha o3 b3
    unfold BLay.v
    have r0 := xr.cell 0
    have r1 := xr.cell 1
    have r2 := xr.cell 2
    have r3 := xr.cell 3
    have r4 := xr.cell 4
    have r5 := xr.cell 5
    have r6 := xr.cell 6
    have fr := xr.free
    simp at r0 r1 r2 r3 r4 r5 r6
    go_wp2
    have hX := (((((((xr).set_ 0 (.slice L3.A L3.n L3.c)).set_ 1 (.int .i64 y.head)).set_ 2 (.slice L3.Ap L3.np L3.cp)).set_ 3 (.int .i64 y.phase)).set_ 4 (.slice L3.Ag L3.ng L3.cg)).set_ 5 (.slice L3.Ab L3.nb L3.cb)).set_ 6 (.int .i64 y.cursor)
    have hS : Touch (fun k => k = w.heap.size + 1) w3 _ := (((((((touch_set (S := fun k => k = w.heap.size + 1) w3 (w.heap.size + 1) 0 (.slice L3.A L3.n L3.c) rfl).trans (touch_set (S := fun k => k = w.heap.size + 1) _ (w.heap.size + 1) 1 (.int .i64 y.head) rfl)).trans (touch_set (S := fun k => k = w.heap.size + 1) _ (w.heap.size + 1) 2 (.slice L3.Ap L3.np L3.cp) rfl)).trans (touch_set (S := fun k => k = w.heap.size + 1) _ (w.heap.size + 1) 3 (.int .i64 y.phase) rfl)).trans (touch_set (S := fun k => k = w.heap.size + 1) _ (w.heap.size + 1) 4 (.slice L3.Ag L3.ng L3.cg) rfl)).trans (touch_set (S := fun k => k = w.heap.size + 1) _ (w.heap.size + 1) 5 (.slice L3.Ab L3.nb L3.cb) rfl)).trans (touch_set (S := fun k => k = w.heap.size + 1) _ (w.heap.size + 1) 6 (.int .i64 y.cursor) rfl))
    refine bodyPost_ret (v := .tuple #[.agg #[.slice L3.A L3.n L3.c, .int .i64 y.head, .slice L3.Ap L3.np L3.cp, .int .i64 y.phase, .slice L3.Ag L3.ng L3.cg, .slice L3.Ab L3.nb L3.cb, .int .i64 y.cursor], .bool rr]) (results_box2 Tryz.results19 _ _ (w.heap.size + 1) _ _ _ _ rfl rfl hX Tryz.underlying30 rfl (by kernel_rfl)) rfl ?_
    exact ⟨L3, y, rr, rfl, HA.out, OwnBK.base (O3.out.boxed xr hS) (by omega), B3.out.trans (hS.below B3.out.size (fun k hk e => by omega))⟩
end Go.Proofs.YtigdcmfmaehjfaaGreat

-- ChsL: The size of some changes, as the laws count it, with whatever is left.
namespace Go.Proofs.YtigdcmfmaehjfaaGreat
set_option maxRecDepth 20000
set_option linter.unusedVariables false
set_option linter.unusedSimpArgs false
open Go.RowKit

theorem szChangesL_any (left : Nat) (A : Option Addr) (n c : Nat) (cs : List MChg) (w : World) (hleft : left ≤ 1048576) (hn : n ≤ maxLen) (hm : ∀ i, (cx cs i).bytes.length ≤ maxLen) (hb : Chs w w.heap.size A n cs) :
    Calls Tryz.prog 18 #[.slice A n c, .int .i64 left] w fun e w' => e = .returned (.int .i64 (leftOf left (szH cs))) ∧ Below w.heap.size w w' := by
  have hlen : cs.length = n := hb.1
  have HB := Lib.hid hb
  clear hb
  unfold maxLen at hn
  by_cases hbig : left < n
  · have hr : leftOf left (szH cs) = -1 := if_neg (by have := szH_len cs; omega)
    have hwr0 : IntKind.i64.wrap ((left : Int) - (n : Int)) = (left : Int) - (n : Int) := by rw [IntKind.wrap_i64]; omega
    have hd0 : decide ((left : Int) - (n : Int) < 0) = true := decide_eq_true (by omega)
    rw [hr]
    go_enter Tryz.func18, Tryz.ntmps18
    go_wp2
    go_ret
    exact ⟨rfl, Below.refl _ _⟩
  · have hle : n ≤ left := by omega
    have hwr : IntKind.i64.wrap ((left : Int) - (n : Int)) = ((left - n : Nat) : Int) := by rw [IntKind.wrap_i64]; omega
    have hd : decide ((((left - n : Nat) : Int)) < 0) = false := decide_eq_false (by omega)
    go_enter Tryz.func18, Tryz.ntmps18
    go_wp2
    go_loopw [1, 5] (fun l i wr => ∃ k x : Nat, k ≤ n ∧ i = .int .i64 k ∧ l = .int .i64 x ∧ x + n + szH (cs.take k) = left + k ∧ Below w.heap.size w wr) (fun _ i _ => n - (intOf i).toNat)
    case atStart => exact ⟨0, left - n, Nat.zero_le _, rfl, by first | rfl | (simp; omega), by simp [szH]; omega, Below.refl _ _⟩
    case round =>
      obtain ⟨k, x, hk, rfl, rfl, hx, hbel⟩ := hrel
      by_cases hlt : k < n
      · obtain ⟨b, off, Ai, ni, ci, rfl, hbB, h0, h1, h2, _, _, hby⟩ := (HB.out.below hbel).at_ hlt
        have hni : (cx cs k).bytes.length = ni := hby.1
        have hnm := hm k
        have hst := szH_take cs k (by omega)
        have hall := szH_take_le cs (k + 1)
        have BR := Lib.hid hbel
        clear hbel hby
        go_wp2_with fail
        refine (szChange_any (cx cs k) _ _ _ x _ (by omega) (by omega)).mono ?_
        rintro e w1 ⟨rfl, b1⟩
        have B1 := Lib.hid (BR.out.trans (b1.mono BR.out.size))
        clear b1 h0 h1 h2
        by_cases hq : ni ≤ x
        · rw [if_pos hq]
          have hd2 : decide ((((x - ni : Nat) : Int)) < 0) = false := decide_eq_false (by omega)
          go_wp2
          go_roundw
          case rel => exact ⟨k + 1, x - ni, by omega, by go_num, rfl, by omega, B1.out⟩
          case measure => simp [intOf]; omega
        · rw [if_neg hq]
          go_wp2
          go_ret
          have hle3 : n ≤ k + 1 + szH (cs.drop (k + 1)) := by have := szH_len (cs.drop (k + 1)); simp at this; omega
          have hsum : szH cs = szH (cs.take (k + 1)) + szH (cs.drop (k + 1)) := by rw [← szH_append, List.take_append_drop]
          exact ⟨by rw [show leftOf left (szH cs) = -1 from if_neg (by omega)]; rfl, B1.out⟩
      · obtain rfl : k = n := by omega
        have hst : cs.take k = cs := List.take_of_length_le (by omega)
        rw [hst] at hx
        go_wp2
        go_ret
        exact ⟨by rw [show leftOf left (szH cs) = ((left - szH cs : Nat) : Int) from if_pos (by omega)]; exact ret_i64 (by omega), hbel⟩

end Go.Proofs.YtigdcmfmaehjfaaGreat

-- ChgAZ: How much a base takes behind changes. No statement of the program is proved here.
namespace Go.Proofs.YtigdcmfmaehjfaaGreat
set_option maxRecDepth 20000
set_option linter.unusedVariables false
set_option linter.unusedSimpArgs false
open Go.RowKit

theorem szC_ins (cs : List (Int × List Int)) (m : Int) (bs : List Int) : szC (insC cs m bs) = szC cs + 1 + bs.length := by
  unfold insC
  have h : szC cs = szC (cs.take (placeC cs m)) + szC (cs.drop (placeC cs m)) := by rw [← szC_append, List.take_append_drop]
  rw [szC_append, h]
  simp [szC]
  omega
theorem szB_step (b : MBase) (c : MChg) : szB (changeOne b c) ≤ szB b + 1 + c.bytes.length := by
  have a1 : szC (addL b.cells c.name c.bytes) ≤ szC b.cells + 1 + c.bytes.length := by
    unfold addL
    split
    · omega
    · rw [szC_ins]; omega
  have a2 := szC_filter b.cells (fun x => decide (x.1 ≠ c.name))
  have a2' : szC (lessC b.cells c.name) ≤ szC b.cells := a2
  have a3 := lessL_len b.black c.name
  have a4 := lessL_len b.pins c.name
  have a5 := intoL_len b.pins c.name
  have a6 := intoL_len b.black c.name
  unfold changeOne szB
  split
  · simp only; omega
  split
  · simp only; omega
  split
  · simp only; omega
  split
  · simp only; omega
  split
  · simp only; omega
  split
  · simp; omega
  split
  · simp; omega
  split
  · simp only; omega
  split
  · simp only; omega
  split
  · simp only; omega
  split
  · simp; omega
  · omega
theorem szB_fold (l : List MChg) (b : MBase) : szB (l.foldl changeOne b) ≤ szB b + szH l := by
  induction l generalizing b with
  | nil => simp [szH]
  | cons c r ih =>
    have h1 := ih (changeOne b c)
    have h2 := szB_step b c
    simp only [List.foldl_cons, szH]
    omega
theorem allIs_sz {b y : MBase} {l : List MChg} {r : Bool} (h : AllIs b l y r) : szB y ≤ szB b + szH l := by
  rcases h with ⟨_, _, _, _, rfl, _⟩ | ⟨_, _, rfl, _⟩ | ⟨_, rfl, _⟩
  · exact szB_fold l b
  · omega
  · simp [szB, szC]
/-- the lists of a base that a call made, in blocks from lo to hi. -/
structure OwnBU (w : World) (lo hi : Nat) (L : BLay) (b : MBase) : Prop where
  cells : OwnC w lo hi L.A L.n L.c b.cells
  pins : OwnI w lo L.Ap L.np L.cp b.pins
  grey : OwnI w lo L.Ag L.ng L.cg b.grey
  black : OwnI w lo L.Ab L.nb L.cb b.black
  up : ∀ g, (Value.slice L.Ap L.np L.cp).ownBlock = some g → g < hi
  ug : ∀ g, (Value.slice L.Ag L.ng L.cg).ownBlock = some g → g < hi
  ub : ∀ g, (Value.slice L.Ab L.nb L.cb).ownBlock = some g → g < hi
  pg : ∀ g, (Value.slice L.Ap L.np L.cp).ownBlock = some g → (Value.slice L.Ag L.ng L.cg).ownBlock ≠ some g
  pb : ∀ g, (Value.slice L.Ap L.np L.cp).ownBlock = some g → (Value.slice L.Ab L.nb L.cb).ownBlock ≠ some g
  gb : ∀ g, (Value.slice L.Ag L.ng L.cg).ownBlock = some g → (Value.slice L.Ab L.nb L.cb).ownBlock ≠ some g
section
variable {w w' : World} {lo hi : Nat} {L : BLay} {b : MBase}
theorem OwnBK.u (h : OwnBK w lo L b) : OwnBU w lo w.heap.size L b :=
  ⟨h.cells, h.pins, h.grey, h.black, fun g hg => (World.ownsRow.lt h.pins g hg).2, fun g hg => (World.ownsRow.lt h.grey g hg).2, fun g hg => (World.ownsRow.lt h.black g hg).2, h.pg, h.pb, h.gb⟩
theorem OwnBU.bk (h : OwnBU w lo hi L b) (hh : hi ≤ w.heap.size) : OwnBK w lo L b := ⟨h.cells.more hh, h.pins, h.grey, h.black, h.pg, h.pb, h.gb⟩
theorem OwnBU.touch {S : Nat → Prop} (h : OwnBU w lo hi L b) (t : Touch S w w') (hn : ∀ g, lo ≤ g → g < hi → ¬ S g) : OwnBU w' lo hi L b :=
  ⟨h.cells.touch t hn, h.pins.touch t (fun g hg => hn g (World.ownsRow.lt h.pins g hg).1 (h.up g hg)), h.grey.touch t (fun g hg => hn g (World.ownsRow.lt h.grey g hg).1 (h.ug g hg)), h.black.touch t (fun g hg => hn g (World.ownsRow.lt h.black g hg).1 (h.ub g hg)),
    h.up, h.ug, h.ub, h.pg, h.pb, h.gb⟩
theorem OwnBU.below (h : OwnBU w lo hi L b) (hb : Below hi w w') : OwnBU w' lo hi L b :=
  h.touch (S := fun k => hi ≤ k) ⟨hb.os, hb.tape, hb.output, hb.size, fun k hk hs => hb.block k (by omega)⟩ (fun g _ h1 h2 => by omega)
theorem OwnBU.inn (h : OwnBU w lo hi L b) : BaseIn w hi L b := ⟨h.cells.cells, h.pins.up h.up, h.grey.up h.ug, h.black.up h.ub⟩
end
theorem markBU_any (L : BLay) (b : MBase) (lo hi : Nat) (k0 : Int) (w : World) (hs : szB b ≤ 1000000000) (hk : 0 ≤ k0) (hk1 : k0 ≤ 1000000000) (hm : OwnBU w lo hi L b) (hhi : hi ≤ w.heap.size) :
    Calls Tryz.prog 15 #[L.v b, .int .i64 k0] w fun e w' => e = .returned (.int .i64 (k0 + szB b)) ∧ OwnBU w' lo hi L (markedB k0 b) ∧ Touch (fun g => lo ≤ g ∧ g < hi ∨ w.heap.size ≤ g) w w' := by
  obtain ⟨A, n, c, Ap, np, cp, Ag, ng, cg, Ab, nb, cb⟩ := L
  obtain ⟨cs, head, pins, phase, grey, black, cursor⟩ := b
  obtain ⟨hC, hP, hG, hK, up, ug, ub, pg, pb, gb⟩ := hm
  simp only [szB] at hs hC hP hG hK up ug ub pg pb gb
  have hl0 := hC.len
  have hl1 := hP.len
  have hl2 := hG.len
  have hl3 := hK.len
  have hszl := szC_len cs
  unfold BLay.v szB markedB
  simp only
  obtain ⟨w3, hw3⟩ : ∃ w3, w.alloc (.cells #[.slice A n c, .int .i64 head, .slice Ap np cp, .int .i64 phase, .slice Ag ng cg, .slice Ab nb cb, .int .i64 cursor] 30) = w3 := ⟨_, rfl⟩
  have x0 : Box w3 w.heap.size _ _ := hw3 ▸ heap_alloc_new _ _
  have b3 : Below w.heap.size w w3 := hw3 ▸ (Below.refl _ _).alloc (Nat.le_refl _) _
  have X0 := Lib.hid x0
  have UP := Lib.hid up
  have UG := Lib.hid ug
  have UB := Lib.hid ub
  have PG := Lib.hid pg
  have PB := Lib.hid pb
  have GB := Lib.hid gb
  have PL := Lib.hid (fun g (hg : (Value.slice Ap np cp).ownBlock = some g) => World.ownsRow.lt hP g hg)
  have GL := Lib.hid (fun g (hg : (Value.slice Ag ng cg).ownBlock = some g) => World.ownsRow.lt hG g hg)
  have KL := Lib.hid (fun g (hg : (Value.slice Ab nb cb).ownBlock = some g) => World.ownsRow.lt hK g hg)
  have HC := Lib.hid (hC.below (b3.mono hhi))
  have HP := Lib.hid (hP.below b3)
  have HG := Lib.hid (hG.below b3)
  have HK := Lib.hid (hK.below b3)
  have s3 : w.heap.size < w3.heap.size := x0.lt
  have q0 := x0.cell 0
  simp at q0
  have T3 := Lib.hid (Touch.of_below (S := fun g => lo ≤ g ∧ g < hi ∨ w.heap.size ≤ g) b3)
  clear x0 b3 hC hP hG hK up ug ub pg pb gb
  go_enter Tryz.func15, Tryz.ntmps15
  go_wp2_with fail
  refine (markCK_any A n c lo hi cs k0 w3 hk (by omega) HC.out).mono ?_
  rintro e w4 ⟨rfl, m4, t4⟩
  have x1 : Box w4 w.heap.size _ _ := (t4.block _ s3 (fun e => by omega)).trans X0.out
  have X1 := Lib.hid x1
  have HC := Lib.hid m4
  have HP := Lib.hid (HP.out.touch t4 (fun g hg e => by
    rcases e.1 with h | h
    · exact HP.out.notC hg h
    · have := PL.out g hg; omega))
  have HG := Lib.hid (HG.out.touch t4 (fun g hg e => by
    rcases e.1 with h | h
    · exact HG.out.notC hg h
    · have := GL.out g hg; omega))
  have HK := Lib.hid (HK.out.touch t4 (fun g hg e => by
    rcases e.1 with h | h
    · exact HK.out.notC hg h
    · have := KL.out g hg; omega))
  have T4 := Lib.hid (T3.out.trans (t4.mono (fun g h => .inl h.2)))
  have s4 : w3.heap.size ≤ w4.heap.size := t4.size
  have q2 := X1.out.cell 2
  simp at q2
  clear m4 t4 q0
  go_wp2_with fail
  refine (markI_any Ap np cp lo pins (k0 + szC cs) w4 (by omega) (by omega) HP.out).mono ?_
  rintro e w5 ⟨rfl, m5, g5⟩
  have t5 := Touch.of_grown g5
  have x2 : Box w5 w.heap.size _ _ := (t5.block _ (by omega) (fun e => by have := PL.out _ e.symm; omega)).trans X1.out
  have X2 := Lib.hid x2
  have HC := Lib.hid (HC.out.touchK t5 (fun b h e => HP.out.notC e.symm h))
  have HG := Lib.hid (HG.out.touch t5 (fun g hg e => PG.out g e.symm hg))
  have HK := Lib.hid (HK.out.touch t5 (fun g hg e => PB.out g e.symm hg))
  have HP := Lib.hid m5
  have T5 := Lib.hid (T4.out.trans (t5.mono (fun g h => .inl ⟨(PL.out g h.symm).1, UP.out g h.symm⟩)))
  have s5 : w4.heap.size ≤ w5.heap.size := t5.size
  have q4 := X2.out.cell 4
  simp at q4
  clear m5 g5 t5 q2 x2
  go_wp2_with fail
  refine (markI_any Ag ng cg lo grey (k0 + szC cs + np) w5 (by omega) (by omega) HG.out).mono ?_
  rintro e w6 ⟨rfl, m6, g6⟩
  have t6 := Touch.of_grown g6
  have x3 : Box w6 w.heap.size _ _ := (t6.block _ (by omega) (fun e => by have := GL.out _ e.symm; omega)).trans X2.out
  have X3 := Lib.hid x3
  have HC := Lib.hid (HC.out.touchK t6 (fun b h e => HG.out.notC e.symm h))
  have HP := Lib.hid (HP.out.touch t6 (fun g hg e => PG.out g hg e.symm))
  have HK := Lib.hid (HK.out.touch t6 (fun g hg e => GB.out g e.symm hg))
  have HG := Lib.hid m6
  have T6 := Lib.hid (T5.out.trans (t6.mono (fun g h => .inl ⟨(GL.out g h.symm).1, UG.out g h.symm⟩)))
  have s6 : w5.heap.size ≤ w6.heap.size := t6.size
  have q5 := X3.out.cell 5
  simp at q5
  clear m6 g6 t6 q4 x3
  go_wp2_with fail
  refine (markI_any Ab nb cb lo black (k0 + szC cs + np + ng) w6 (by omega) (by omega) HK.out).mono ?_
  rintro e w7 ⟨rfl, m7, g7⟩
  have t7 := Touch.of_grown g7
  have HC := Lib.hid (HC.out.touchK t7 (fun b h e => HK.out.notC e.symm h))
  have HP := Lib.hid (HP.out.touch t7 (fun g hg e => PB.out g hg e.symm))
  have HG := Lib.hid (HG.out.touch t7 (fun g hg e => GB.out g hg e.symm))
  have HK := Lib.hid m7
  have T7 := Lib.hid (T6.out.trans (t7.mono (fun g h => .inl ⟨(KL.out g h.symm).1, UB.out g h.symm⟩)))
  have s7 : w6.heap.size ≤ w7.heap.size := t7.size
  clear m7 g7 t7 q5
  go_wp2
  go_ret
  refine ⟨ret_i64 (by push_cast; omega), ⟨HC.out, ?_, ?_, ?_, UP.out, UG.out, UB.out, PG.out, PB.out, GB.out⟩, T7.out⟩
  · rw [hl1]; exact HP.out
  · rw [hl1, hl2]; exact HG.out
  · rw [hl1, hl2, hl3]; exact HK.out

end Go.Proofs.YtigdcmfmaehjfaaGreat

-- OwnP: An open base of the call's own, one list of it changed. No statement of the program is proved here.
namespace Go.Proofs.YtigdcmfmaehjfaaGreat
set_option maxRecDepth 20000
set_option linter.unusedVariables false
set_option linter.unusedSimpArgs false
open Go.RowKit

section
variable {w w' : World} {p lo : Nat} {L : OLay} {ps : List (Int × NV)} {b : MBase} {A : Option Addr} {n c : Nat} {l : List Int}
theorem OwnO.setGrey (h : OwnO w lo L ps b) (o : NewI w w' lo L.Ag L.ng L.cg A n c l) (hs : L.np + n + L.nb ≤ 1048576) : OwnO w' lo ⟨L.R, L.Ap, L.np, L.cp, A, n, c, L.Ab, L.nb, L.cb⟩ ps { b with grey := l } :=
  ⟨h.nodes.touch o.touch (fun g hg e => h.gn g e (.inl hg)) (fun y hy g hg e => h.gn g e (.inr ⟨y, hy, hg⟩)), h.pins.touch o.touch (fun g hg e => h.pg g hg e), o.own, h.black.touch o.touch (fun g hg e => h.gb g e hg),
    h.pn, fun g hg e => (o.from_ g hg).elim (fun h1 => h.gn g h1 e) (fun h1 => by have := h.nodes.blk_lt e; omega), h.bn, fun g hg e => (o.from_ g e).elim (fun h1 => h.pg g hg h1) (fun h1 => by have := h.pins.lt g hg; omega), h.pb,
    fun g hg e => (o.from_ g hg).elim (fun h1 => h.gb g h1 e) (fun h1 => by have := h.black.lt g e; omega), hs⟩
theorem OwnO.setBlack (h : OwnO w lo L ps b) (o : NewI w w' lo L.Ab L.nb L.cb A n c l) (hs : L.np + L.ng + n ≤ 1048576) : OwnO w' lo ⟨L.R, L.Ap, L.np, L.cp, L.Ag, L.ng, L.cg, A, n, c⟩ ps { b with black := l } :=
  ⟨h.nodes.touch o.touch (fun g hg e => h.bn g e (.inl hg)) (fun y hy g hg e => h.bn g e (.inr ⟨y, hy, hg⟩)), h.pins.touch o.touch (fun g hg e => h.pb g hg e), h.grey.touch o.touch (fun g hg e => h.gb g hg e), o.own,
    h.pn, h.gn, fun g hg e => (o.from_ g hg).elim (fun h1 => h.bn g h1 e) (fun h1 => by have := h.nodes.blk_lt e; omega), h.pg, fun g hg e => (o.from_ g e).elim (fun h1 => h.pb g hg h1) (fun h1 => by have := h.pins.lt g hg; omega),
    fun g hg e => (o.from_ g e).elim (fun h1 => h.gb g hg h1) (fun h1 => by have := h.grey.lt g hg; omega), hs⟩
theorem OwnO.setPins (h : OwnO w lo L ps b) (o : NewI w w' lo L.Ap L.np L.cp A n c l) (hs : n + L.ng + L.nb ≤ 1048576) : OwnO w' lo ⟨L.R, A, n, c, L.Ag, L.ng, L.cg, L.Ab, L.nb, L.cb⟩ ps { b with pins := l } :=
  ⟨h.nodes.touch o.touch (fun g hg e => h.pn g e (.inl hg)) (fun y hy g hg e => h.pn g e (.inr ⟨y, hy, hg⟩)), o.own, h.grey.touch o.touch (fun g hg e => h.pg g e hg), h.black.touch o.touch (fun g hg e => h.pb g e hg),
    fun g hg e => (o.from_ g hg).elim (fun h1 => h.pn g h1 e) (fun h1 => by have := h.nodes.blk_lt e; omega), h.gn, h.bn, fun g hg e => (o.from_ g hg).elim (fun h1 => h.pg g h1 e) (fun h1 => by have := h.grey.lt g e; omega),
    fun g hg e => (o.from_ g hg).elim (fun h1 => h.pb g h1 e) (fun h1 => by have := h.black.lt g e; omega), h.gb, hs⟩
/-- the nodes changed, in the rows of before or new ones. -/
theorem OwnO.setNodes {R' : SR} {ps' : List (Int × NV)} {cs' : List (Int × List Int)} {S : Nat → Prop} (h : OwnO w lo L ps b) (hn : NodesIs w' lo R' ps' cs') (t : Touch S w w') (hS : ∀ g, S g → NBlk L.R ps g ∨ (¬ L.blk ps g)) (hf : ∀ g, NBlk R' ps' g → NBlk L.R ps g ∨ w.heap.size ≤ g) :
    OwnO w' lo ⟨R', L.Ap, L.np, L.cp, L.Ag, L.ng, L.cg, L.Ab, L.nb, L.cb⟩ ps' { b with cells := cs' } :=
  ⟨hn, h.pins.touch t (fun g hg e => (hS g e).elim (h.pn g hg) (fun h1 => h1 (.inr (.inl hg)))), h.grey.touch t (fun g hg e => (hS g e).elim (h.gn g hg) (fun h1 => h1 (.inr (.inr (.inl hg))))), h.black.touch t (fun g hg e => (hS g e).elim (h.bn g hg) (fun h1 => h1 (.inr (.inr (.inr hg))))),
    fun g hg e => (hf g e).elim (h.pn g hg) (fun h1 => by have := h.pins.lt g hg; omega), fun g hg e => (hf g e).elim (h.gn g hg) (fun h1 => by have := h.grey.lt g hg; omega), fun g hg e => (hf g e).elim (h.bn g hg) (fun h1 => by have := h.black.lt g hg; omega), h.pg, h.pb, h.gb, h.sum⟩
theorem OwnO.withHead (h : OwnO w lo L ps b) (m : Int) : OwnO w lo L ps { b with head := m } := ⟨h.nodes, h.pins, h.grey, h.black, h.pn, h.gn, h.bn, h.pg, h.pb, h.gb, h.sum⟩
theorem OwnO.withPhase (h : OwnO w lo L ps b) (m : Int) : OwnO w lo L ps { b with phase := m } := ⟨h.nodes, h.pins, h.grey, h.black, h.pn, h.gn, h.bn, h.pg, h.pb, h.gb, h.sum⟩
theorem OwnO.withCursor (h : OwnO w lo L ps b) (m : Int) : OwnO w lo L ps { b with cursor := m } := ⟨h.nodes, h.pins, h.grey, h.black, h.pn, h.gn, h.bn, h.pg, h.pb, h.gb, h.sum⟩
end
/-- an open base in its box, which is none of its lists' blocks. -/
structure OB (w : World) (p lo : Nat) (L : OLay) (ps : List (Int × NV)) (b : MBase) : Prop where
  own : OwnO w lo L ps b
  box : Box w p 66 (L.cells ps.length b)
  np : ¬ L.blk ps p
/-- what a change leaves: the base, in rows of before or new ones; nothing else that was there is touched. -/
def Moved (w : World) (p lo : Nat) (L : OLay) (ps : List (Int × NV)) (b' : MBase) (w' : World) : Prop :=
  ∃ L' ps', OB w' p lo L' ps' b' ∧ Touch (fun g => g = p ∨ L.blk ps g) w w' ∧ ∀ g, L'.blk ps' g → L.blk ps g ∨ w.heap.size ≤ g
section
variable {w w' : World} {p lo : Nat} {L : OLay} {ps : List (Int × NV)} {b : MBase}
theorem OB.below (h : OB w p lo L ps b) (hb : Below w.heap.size w w') : OB w' p lo L ps b := ⟨h.own.below hb, h.box.below hb h.box.lt, h.np⟩
theorem OB.inn (h : OB w p lo L ps b) : OpenIs w p lo L ps b := h.own.inn h.box
theorem OB.c (h : OB w p lo L ps b) (k : Nat) : w.cell? ⟨p, k, none⟩ = (L.cells ps.length b)[k]? := h.box.cell k
theorem Moved.same (h : OB w p lo L ps b) (hb : Below w.heap.size w w') : Moved w p lo L ps b w' := ⟨L, ps, h.below hb, Touch.of_below hb, fun g hg => .inl hg⟩
theorem Moved.trans {w0 : World} {L0 : OLay} {ps0 : List (Int × NV)} {b' : MBase} (h : Touch (fun g => g = p ∨ L0.blk ps0 g) w0 w) (hf : ∀ g, L.blk ps g → L0.blk ps0 g ∨ w0.heap.size ≤ g) (hm : Moved w p lo L ps b' w') (hp : p < w0.heap.size) : Moved w0 p lo L0 ps0 b' w' := by
  obtain ⟨L', ps', ob, t, f⟩ := hm
  refine ⟨L', ps', ob, ?_, fun g hg => (f g hg).elim (hf g) (fun h1 => .inr (Nat.le_trans h.size h1))⟩
  refine ⟨t.os.trans h.os, t.tape.trans h.tape, t.output.trans h.output, Nat.le_trans h.size t.size, fun k hk hS => ?_⟩
  refine (t.block k (Nat.lt_of_lt_of_le hk h.size) (fun e => ?_)).trans (h.block k hk hS)
  rcases e with e | e
  · exact hS (.inl e)
  · exact (hf k e).elim (fun h1 => hS (.inr h1)) (fun h1 => by omega)
end
end Go.Proofs.YtigdcmfmaehjfaaGreat
