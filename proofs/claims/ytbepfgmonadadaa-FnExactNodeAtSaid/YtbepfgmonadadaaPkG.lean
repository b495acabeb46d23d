/- Several texts in one, in build order: SlB, IterB, Clone, ReachF, ReachP. -/
import Derived.Test.YtbepfgmonadadaaPkF
-- SlB: A list of flags by name, as it lies in memory, and putting one into it. No statement of the program is proved here.
namespace Go.Proofs.Ytbepfgmonadadaa
set_option maxRecDepth 100000
set_option linter.unusedVariables false
set_option linter.unusedSimpArgs false
open Go.RowKit

def vbs (bs : List (Int × Bool)) : List Value := bs.map fun p => .bool p.2
def kbs (bs : List (Int × Bool)) : List Int := bs.map (·.1)
theorem kbs_len (bs : List (Int × Bool)) : (kbs bs).length = bs.length := by simp [kbs]
theorem vbs_len (bs : List (Int × Bool)) : (vbs bs).length = bs.length := by simp [vbs]
theorem vbs_put (bs : List (Int × Bool)) (i : Nat) (q : Int × Bool) : putAt (vbs bs) [.bool q.2] (i * 1) = vbs (insP bs i q) := by
  unfold vbs putAt
  rw [insP_map]
  unfold insP
  simp
theorem kbs_put (bs : List (Int × Bool)) (i : Nat) (q : Int × Bool) : putAt ((kbs bs).map (Value.int .i64)) [.int .i64 q.1] (i * 1) = (kbs (insP bs i q)).map (Value.int .i64) := by
  unfold kbs putAt
  rw [insP_map, insP_map]
  unfold insP
  simp
theorem vbs_one (bs : List (Int × Bool)) : ∀ u ∈ vbs bs, u.oneCell' = true := by
  intro u hu
  obtain ⟨p, _, rfl⟩ := List.mem_map.1 hu
  rfl
/-- a list of flags by name, in memory of the call's own from lo on. -/
structure SLB (w : World) (lo : Nat) (R : SR) (bs : List (Int × Bool)) : Prop where
  keys : OwnI w lo R.Ak bs.length R.ck (kbs bs)
  vals : w.ownsRow lo 4 1 (.slice R.Av bs.length R.cv) bs.length (vbs bs)
  rise : RiseI (kbs bs)
  len : bs.length ≤ 2000
theorem SLB.nil (w : World) (lo : Nat) : SLB w lo SR0 [] := ⟨OwnI.nil _ _, World.ownsRow_nil _ _ _ _, List.Pairwise.nil, by simp⟩
theorem SLB.lt {w : World} {lo : Nat} {R : SR} {bs : List (Int × Bool)} (h : SLB w lo R bs) (g : Nat) (hg : R.at_ g) : lo ≤ g ∧ g < w.heap.size := by
  rcases hg with ⟨a, ha, rfl⟩ | ⟨a, ha, rfl⟩
  · exact h.keys.lt _ (by rw [ha]; rfl)
  · exact h.vals.lt _ (by rw [ha]; rfl)
theorem SLB.touch {S : Nat → Prop} {w w' : World} {lo : Nat} {R : SR} {bs : List (Int × Bool)} (h : SLB w lo R bs) (t : Touch S w w') (h1 : ∀ g, R.at_ g → ¬ S g) : SLB w' lo R bs :=
  ⟨h.keys.touch t (fun g hg => h1 g (SR.kvAt R bs.length g hg)), own_touch h.vals t (fun g hg => h1 g (SR.vvAt R bs.length g hg)), h.rise, h.len⟩
theorem SLB.below {w w' : World} {lo : Nat} {R : SR} {bs : List (Int × Bool)} (h : SLB w lo R bs) (hb : Below w.heap.size w w') : SLB w' lo R bs :=
  h.touch (S := fun _ => False) (Touch.of_below hb) (fun _ _ h => h)
theorem SLB.not_at {w : World} {lo g : Nat} {R : SR} {bs : List (Int × Bool)} {t : TypeId} {cs : Array Value} (h : SLB w lo R bs) (hb : Box w g t cs) (h1 : t ≠ 2) (h2 : t ≠ 4) : ¬ R.at_ g := fun e => by
  rcases e with ⟨a, ha, e⟩ | ⟨a, ha, e⟩
  · exact own_box_ne h.keys hb h1 (by rw [ha, ← e]; rfl)
  · exact own_box_ne h.vals hb h2 (by rw [ha, ← e]; rfl)
theorem lowB_len (bs : List (Int × Bool)) (m : Int) : lowI (kbs bs) m ≤ bs.length := by have := lowI_le (kbs bs) m; rw [kbs_len] at this; exact this
/-- what a putting leaves, once both rows are made. -/
theorem putB_fin (p lo : Nat) (R : SR) (bs : List (Int × Bool)) (m : Int) (x : Bool) (w w5 w6 : World) (h : SLB w lo R bs) (hp : p < w.heap.size) (hl : bs.length < 2000) (ht : hitI (kbs bs) m = false)
    (g4 c4 g6 c6 : Nat) (T5 : Touch (fun g => g = p ∨ R.at_ g) w w5)
    (P5 : Box w5 p 87 #[.slice (some ⟨g4, 0, none⟩) (bs.length + 1) c4, R.vv bs.length])
    (K5 : OwnI w5 lo (some ⟨g4, 0, none⟩) (bs.length + 1) c4 (kbs (insP bs (lowI (kbs bs) m) (m, x)))) (G4 : R.at_ g4 ∨ w.heap.size ≤ g4)
    (V5 : w5.ownsRow lo 4 1 (R.vv bs.length) bs.length (vbs bs))
    (t6 : Touch (fun g => (R.vv bs.length).ownBlock = some g) w5 w6)
    (o6 : w6.ownsRow lo 4 1 (.slice (some ⟨g6, 0, none⟩) (bs.length + 1) c6) (bs.length + 1) (vbs (insP bs (lowI (kbs bs) m) (m, x)))) (G6 : R.at_ g6 ∨ w.heap.size ≤ g6) :
    Box w6 p 87 #[.slice (some ⟨g4, 0, none⟩) (bs.length + 1) c4, R.vv bs.length] ∧
    ∃ R', Box (w6.setCell ⟨p, 1, none⟩ (.slice (some ⟨g6, 0, none⟩) (bs.length + 1) c6)) p 87 #[R'.kv (bs.length + 1), R'.vv (bs.length + 1)] ∧
      SLB (w6.setCell ⟨p, 1, none⟩ (.slice (some ⟨g6, 0, none⟩) (bs.length + 1) c6)) lo R' (insP bs (lowI (kbs bs) m) (m, x)) ∧ R'.from_ R w.heap.size ∧ Touch (fun g => g = p ∨ R.at_ g) w (w6.setCell ⟨p, 1, none⟩ (.slice (some ⟨g6, 0, none⟩) (bs.length + 1) c6)) := by
  have hvp : (R.vv bs.length).ownBlock ≠ some p := own_box_ne V5 P5 (by decide)
  have s5 := T5.size
  have P6 : Box w6 p 87 #[.slice (some ⟨g4, 0, none⟩) (bs.length + 1) c4, R.vv bs.length] := (t6.block p (by omega) (fun e => hvp e)).trans P5
  have K6 := K5.touch t6 (fun g hg e => own_own_ne K5 V5 (by decide) g hg e)
  have g4p : g4 ≠ p := fun e => own_box_ne K6 P6 (by decide) (by rw [e]; rfl)
  have g6p : g6 ≠ p := fun e => own_box_ne o6 P6 (by decide) (by rw [e]; rfl)
  obtain ⟨w7, hw7⟩ : ∃ w7, w6.setCell ⟨p, 1, none⟩ (.slice (some ⟨g6, 0, none⟩) (bs.length + 1) c6) = w7 := ⟨_, rfl⟩
  have t7 : Touch (fun g => g = p) w6 w7 := by rw [← hw7]; exact touch_set w6 p 1 _ rfl
  have P7 : Box w7 p 87 #[.slice (some ⟨g4, 0, none⟩) (bs.length + 1) c4, .slice (some ⟨g6, 0, none⟩) (bs.length + 1) c6] := by rw [← hw7]; exact P6.set_ 1 _
  have K7 := K6.touch t7 (fun g hg e => g4p (by have e2 : g4 = g := (by simpa [Value.ownBlock] using hg); omega))
  have O7 := own_touch o6 t7 (fun g hg e => g6p (by have e2 : g6 = g := (by simpa [Value.ownBlock] using hg); omega))
  rw [hw7]
  have T7 : Touch (fun g => g = p ∨ R.at_ g) w w7 := (T5.trans (t6.mono (fun k hk => .inr (R.vvAt _ _ hk)))).trans (t7.mono (fun k hk => .inl hk))
  have hfrom : (⟨some ⟨g4, 0, none⟩, c4, some ⟨g6, 0, none⟩, c6⟩ : SR).from_ R w.heap.size := fun g hg => by
    rcases hg with ⟨a, ha, e⟩ | ⟨a, ha, e⟩
    · cases ha; subst e; exact G4
    · cases ha; subst e; exact G6
  have hli := lowB_len bs m
  have hln : (insP bs (lowI (kbs bs) m) (m, x)).length = bs.length + 1 := insP_len _ _ _ hli
  refine ⟨P6, ⟨some ⟨g4, 0, none⟩, c4, some ⟨g6, 0, none⟩, c6⟩, P7, ⟨by rw [hln]; exact K7, by rw [hln]; exact O7, ?_, by omega⟩, hfrom, T7⟩
  have hm : m ∉ kbs bs := fun hm => by rw [(hitI_mem _ _ h.rise).2 hm] at ht; cases ht
  have e : kbs (insP bs (lowI (kbs bs) m) (m, x)) = insI (kbs bs) m := by rw [← insP_low _ _ hm]; exact insP_map _ _ _ _
  rw [e]
  exact insI_rise _ _ h.rise hm
set_option maxHeartbeats 2000000 in
theorem putB_any (p lo : Nat) (R : SR) (bs : List (Int × Bool)) (m : Int) (x : Bool) (w : World) (hx : Box w p 87 #[R.kv bs.length, R.vv bs.length]) (h : SLB w lo R bs) (hlo : lo ≤ w.heap.size) (hl : bs.length < 2000) :
    Calls Try.prog 84 #[.pointer (some ⟨p, 0, none⟩), .int .i64 m, .bool x] w fun e w' =>
      (hitI (kbs bs) m = true ∧ e = .returned (.bool false) ∧ Below w.heap.size w w') ∨
      (hitI (kbs bs) m = false ∧ e = .returned (.bool true) ∧ ∃ R', Box w' p 87 #[R'.kv (bs.length + 1), R'.vv (bs.length + 1)] ∧ SLB w' lo R' (insP bs (lowI (kbs bs) m) (m, x)) ∧ R'.from_ R w.heap.size ∧ Touch (fun g => g = p ∨ R.at_ g) w w') := by
  have mixed : Try.prog.follows .mixedOrders = true := by kernel_rfl
  have hlen := h.len
  have hp := hx.lt
  have P1 := Lib.hid hx
  have HS := Lib.hid h
  have HRL := Lib.hid (fun g hg => (h.lt g hg).2)
  clear hx h
  have q0 := P1.out.cell 0
  have q1 := P1.out.cell 1
  unfold SR.kv at q0
  unfold SR.vv at q1
  simp at q0 q1
  go_enter Try.func84, Try.ntmps84
  go_wp2_with fail
  refine (search_any R.Ak bs.length R.ck (kbs bs) m w.heap.size w (by omega) HS.out.keys.ints HS.out.rise).mono ?_
  rintro e w2 ⟨rfl, nq, hq⟩
  have b2 : Below w.heap.size w w2 := by rw [hq]; exact below_drewN (Below.refl _ _) nq
  have P2 := Lib.hid (P1.out.below b2 (by omega))
  have S2 := Lib.hid (HS.out.below b2)
  have B2 := Lib.hid b2
  have hs2 : w2.heap.size = w.heap.size := by rw [hq]; simp
  clear hq b2 q0 q1
  have q0 := P2.out.cell 0
  have q1 := P2.out.cell 1
  have p0 := P2.out.free
  unfold SR.kv at q0
  unfold SR.vv at q1
  simp at q0 q1
  obtain ⟨ht, hht⟩ : ∃ ht, hitI (kbs bs) m = ht := ⟨_, rfl⟩
  have HT := Lib.hid hht
  rw [hht]
  clear hht
  obtain ⟨i, hi⟩ : ∃ i, lowI (kbs bs) m = i := ⟨_, rfl⟩
  have hil : i ≤ bs.length := by rw [← hi]; exact lowB_len bs m
  have HI := Lib.hid hi
  rw [hi]
  clear hi
  cases ht with
  | true =>
    go_wp2
    go_ret
    exact .inl ⟨HT.out, rfl, B2.out⟩
  | false =>
    -- the key's own block
    obtain ⟨w3, hw3⟩ : ∃ w3, w2.alloc (.cells #[.int .i64 m] 2) = w3 := ⟨_, rfl⟩
    have b3 : Below w2.heap.size w2 w3 := hw3 ▸ (Below.refl w2.heap.size w2).alloc (Nat.le_refl _) _
    have y3 : Box w3 w2.heap.size 2 #[.int .i64 m] := hw3 ▸ heap_alloc_new _ _
    have s3 : w3.heap.size = w.heap.size + 1 := by rw [← hw3]; simp [hs2]
    rw [hs2] at y3
    have P3 := Lib.hid (P2.out.below b3 (by omega))
    have S3 := Lib.hid (S2.out.below b3)
    have B3 := Lib.hid (B2.out.trans (b3.mono (by omega)))
    have Y3 := Lib.hid y3
    clear b3 y3
    go_wp2_with fail
    refine (insI_any lo bs.length R.ck i w.heap.size _ R.Ak ((kbs bs).map (Value.int .i64)) [.int .i64 m] w3 S3.out.keys (by omega) hil (by omega) Y3.out rfl (by intro u hu; simp at hu; subst hu; rfl) (kvs_one _) (fun e => by have := (S2.out.keys.lt _ e).2; omega)).mono ?_
    rintro e w4 ⟨g4, c4, rfl, o4, gr4, at4⟩
    rw [show ([.int .i64 m] : List Value) = [.int .i64 ((m, x) : Int × Bool).1] from rfl, kbs_put] at o4
    have gk4 := gr4
    have gr4 : Touch (fun g => R.at_ g) w3 w4 := (Touch.of_grown gr4).mono (fun k hk => R.kvAt _ _ hk.symm)
    have np_ : ¬ R.at_ p := S3.out.not_at P3.out (by decide) (by decide)
    have s4 : w3.heap.size ≤ w4.heap.size := gr4.size
    have P4 := Lib.hid (show Box w4 p _ _ from (gr4.block p (by omega) np_).trans P3.out)
    have V4 := Lib.hid (own_touch S3.out.vals (S := fun g => (R.kv bs.length).ownBlock = some g) ((Touch.of_grown (show w3.grownBy w4 (R.kv bs.length).ownBlock from gk4)).mono (fun k hk => hk.symm)) (fun g hg hk => own_own_ne S3.out.keys S3.out.vals (by decide) g hk hg))
    have V4p : (R.vv bs.length).ownBlock ≠ some p := own_box_ne V4.out P4.out (by decide)
    have K4 := Lib.hid (show OwnI w4 lo (some ⟨g4, 0, none⟩) (bs.length + 1) c4 _ from o4)
    have g4p : g4 ≠ p := fun e => own_box_ne o4 P4.out (by decide) (by rw [e]; rfl)
    have G4 := Lib.hid at4
    clear o4 gk4 at4 q0 q1 p0
    have f4 := P4.out.free
    have q4 := P4.out.cell 0
    simp at q4
    obtain ⟨w5, hw5⟩ : ∃ w5, w4.setCell ⟨p, 0, none⟩ (.slice (some ⟨g4, 0, none⟩) (bs.length + 1) c4) = w5 := ⟨_, rfl⟩
    have t5 : Touch (fun g => g = p) w4 w5 := by rw [← hw5]; exact touch_set w4 p 0 _ rfl
    have s5 : w5.heap.size = w4.heap.size := by rw [← hw5]; simp
    have P5 := Lib.hid (show Box w5 p _ #[.slice (some ⟨g4, 0, none⟩) (bs.length + 1) c4, R.vv bs.length] from by rw [← hw5]; exact P4.out.set_ 0 _)
    have V5 := Lib.hid (own_touch V4.out t5 (fun g hg hk => V4p (by rw [← hk]; exact hg)))
    have K5 := Lib.hid (K4.out.touch t5 (fun g hg hk => g4p (by have e : g4 = g := (by simpa [Value.ownBlock] using hg); omega)))
    have T5 := Lib.hid (show Touch (fun g => g = p ∨ R.at_ g) w w5 from ((Touch.of_below B3.out).trans (gr4.mono (fun k hk => .inr hk))).trans (t5.mono (fun k hk => .inl hk)))
    have q1 := P5.out.cell 1
    have f1 := P5.out.free
    unfold SR.vv at q1
    simp at q1
    obtain ⟨w51, hw51⟩ : ∃ w51, w5.alloc (.cells #[.bool x] 4) = w51 := ⟨_, rfl⟩
    have b51 : Below w5.heap.size w5 w51 := hw51 ▸ (Below.refl _ _).alloc (Nat.le_refl _) _
    have V6 := Lib.hid (show w51.ownsRow lo 4 1 (.slice R.Av bs.length R.cv) bs.length (vbs bs) from hw51 ▸ V5.out.alloc _)
    have y6 : w51.heap[w5.heap.size]? = some (.cells ([.bool x] : List Value).toArray 4 (0, 0)) := hw51 ▸ heap_alloc_new w5 _
    rw [s5] at y6
    have Y6 := Lib.hid y6
    have z6 : w51.heap.size = w4.heap.size + 1 := by rw [← hw51, ← s5]; simp
    have VB := Lib.hid (fun g hg => (V5.out.lt g hg).2)
    have B51 := Lib.hid b51
    clear gr4 t5 y6 b51
    have hp4 : p < w4.heap.size := by omega
    have hp5 : p < w5.heap.size := by omega
    have hpn : ¬ (p = w4.heap.size) := by omega
    go_wp2_with fail
    refine (insB_any lo bs.length R.cv i w4.heap.size _ R.Av (vbs bs) [.bool x] w51 V6.out (by omega) hil (by omega) Y6.out rfl (by intro u hu; simp at hu; subst hu; rfl) (vbs_one _) (fun e => by have := VB.out _ e; omega)).mono ?_
    rintro e w6 ⟨g6, c6, rfl, o6, gr6, at6⟩
    rw [show ([.bool x] : List Value) = [.bool ((m, x) : Int × Bool).2] from rfl, vbs_put, ← HI.out] at o6
    have PF := putB_fin p lo R bs m x w w5 w6 HS.out hp hl HT.out g4 c4 g6 c6 T5.out P5.out (by rw [HI.out]; exact K5.out) (G4.out.elim (fun e => .inl (R.kvAt _ _ e)) (fun e => .inr (by omega))) V5.out
      ((Touch.of_below B51.out).trans ((Touch.of_grown gr6).mono (fun k hk => hk.symm))) o6 (at6.elim (fun e => .inl (R.vvAt _ _ e)) (fun e => .inr (by omega)))
    have q6 := PF.1.cell 1
    have f6 := PF.1.free 1
    simp at q6
    have PF := Lib.hid PF.2
    clear q1 f1 o6 gr6 at6 hw51 hw5 f4 q4
    go_wp2
    go_ret
    exact .inr ⟨HT.out, rfl, PF.out⟩
end Go.Proofs.Ytbepfgmonadadaa

-- IterB: The iterator of the list of flags.
namespace Go.Proofs.Ytbepfgmonadadaa
set_option maxRecDepth 20000
set_option linter.unusedVariables false
set_option linter.unusedSimpArgs false
open Go.RowKit Go.Shelf
attribute [local go_sem] Oper.semAt_some

/-- every block below n but two is as it was. -/
def KpT (cb cd n : Nat) (A B : World) : Prop := A.heap.size ≤ B.heap.size ∧ ∀ k, k < n → k ≠ cb ∧ k ≠ cd → B.heap[k]? = A.heap[k]?
theorem KpT.refl (cb cd n : Nat) (A : World) : KpT cb cd n A A := ⟨Nat.le_refl _, fun _ _ _ => rfl⟩
theorem KpT.trans {cb cd n : Nat} {A B C : World} (h : KpT cb cd n A B) (k : KpT cb cd n B C) : KpT cb cd n A C := ⟨Nat.le_trans h.1 k.1, fun i hi hc => (k.2 i hi hc).trans (h.2 i hi hc)⟩
theorem KpT.put {cb cd n : Nat} {w : World} (hn : n ≤ w.heap.size) (W : World) (l : Nat) (o o' : Obj) (hl : w.heap.size ≤ l) (h : W.heap[l]? = some o) (_ : o.isCells = false) (_ : o.isWalk = false) : KpT cb cd n W (W.putObj l o') := by
  have hg := grownBy_putObj' W l o'
  exact ⟨hg.size, fun k hk _ => by
    have hl2 := (Array.getElem?_eq_some_iff.1 h).1
    exact hg.block k (by omega) (fun e => by cases e; omega)⟩
theorem KpT.cell {cb cd n : Nat} {A B : World} (h : KpT cb cd n A B) {a : Addr} (hn : a.block < n) (hc : a.block ≠ cb ∧ a.block ≠ cd) : B.cell? a = A.cell? a := World.cell?_of_block (h.2 _ hn hc)
theorem KpT.box {cb cd n g : Nat} {A B : World} {t : TypeId} {cs : Array Value} (h : KpT cb cd n A B) (hb : Box A g t cs) (hg : g < n) (hc : g ≠ cb ∧ g ≠ cd) : Box B g t cs := (h.2 g hg hc).trans hb
def bAt (bs : List (Int × Bool)) (k : Nat) : Int × Bool := bs[k]?.getD (0, false)
theorem bAt_mem (bs : List (Int × Bool)) (k : Nat) (h : k < bs.length) : bAt bs k ∈ bs := by unfold bAt; rw [List.getElem?_eq_getElem h]; exact List.getElem_mem h
/-- what the k-th round is handed. -/
def encB (bs : List (Int × Bool)) (k : Nat) : Array Value := #[.int .i64 (bAt bs k).1, .bool (bAt bs k).2]
theorem kbs_at (bs : List (Int × Bool)) (i : Nat) (h : i < bs.length) : (kbs bs)[i]?.getD 0 = bs[i].1 := by unfold kbs; simp [h]

set_option maxHeartbeats 2000000 in
theorem allB1_in (F : Fence) (n : Nat) (h7 : F.fn 85) (hro : F.round = none) (hn : 1 ≤ n) (l Bs n₀ cb cd p lo : Nat) (R : SR) (bs : List (Int × Bool))
    (J Jx : List Nat → World → Prop) (W : World) (hW0 : n₀ ≤ W.heap.size)
    (hY : ∀ pre x W1, J pre W1 → pre.length < bs.length → YieldAt F (n - 1) Try.prog l (encB bs x) W1 fun e W' =>
      (e = .returned (.bool true) ∧ J (pre ++ [x]) W' ∧ KpT cb cd n₀ W1 W') ∨ (e = .returned (.bool false) ∧ Jx (pre ++ [x]) W'))
    (hBs : Box W Bs 118 #[.pointer (some ⟨p, 0, none⟩)]) (hB0 : Bs < n₀) (hB1 : Bs ≠ cb ∧ Bs ≠ cd)
    (hP : Box W p 87 #[R.kv bs.length, R.vv bs.length]) (hP0 : p < n₀) (hP1 : p ≠ cb ∧ p ≠ cd)
    (hS : SLB W lo R bs) (hR : ∀ g, R.at_ g → g < n₀ ∧ g ≠ cb ∧ g ≠ cd) (h0 : J [] W) :
    CallsIn F n Try.prog 85 #[.func (.yield l) #[] #[], .pointer (some ⟨Bs, 0, none⟩)] W fun e W' => (∃ v, e = .returned v) ∧
      ((∃ ys, ys = List.range bs.length ∧ J ys W') ∨ (∃ pre, (∃ k, k ≤ bs.length ∧ pre = List.range k) ∧ Jx pre W')) := by
  have hlen := hS.len
  -- what a round reads, in whatever world the rounds have left
  have hrd : ∀ W', KpT cb cd n₀ W W' → W'.cell? ⟨Bs, 0, none⟩ = some (.pointer (some ⟨p, 0, none⟩)) ∧ W'.cell? ⟨p, 1, none⟩ = some (.slice R.Av bs.length R.cv) := fun W' hk => by
    have h1 := (hk.box hBs hB0 hB1).cell 0
    have h2 := (hk.box hP hP0 hP1).cell 1
    unfold SR.vv at h2
    simpa using ⟨h1, h2⟩
  have hrk : ∀ W', KpT cb cd n₀ W W' → ∀ k, k < bs.length → ∃ g, R.Ak = some ⟨g, 0, none⟩ ∧ W'.cell? ⟨g, k, none⟩ = some (.int .i64 (bAt bs k).1) := fun W' hk k hlt => by
    obtain ⟨g, hg, _⟩ := hS.keys.form (by omega)
    have ho := hS.keys
    rw [hg] at ho
    have hgg := hR g (.inl ⟨_, hg, rfl⟩)
    refine ⟨g, hg, ?_⟩
    rw [hk.cell (a := ⟨g, k, none⟩) hgg.1 hgg.2, ho.cell hlt, kbs_at bs k hlt]
    unfold bAt
    rw [List.getElem?_eq_getElem hlt]; rfl
  have hrv : ∀ W', KpT cb cd n₀ W W' → ∀ k, k < bs.length → ∃ g, R.Av = some ⟨g, 0, none⟩ ∧ W'.cell? ⟨g, k, none⟩ = some (.bool (bAt bs k).2) := fun W' hk k hlt => by
    obtain ⟨g, cap, hgv, _⟩ := World.ownsRow.form hS.vals (by omega)
    have hg : R.Av = some ⟨g, 0, none⟩ := by injection hgv
    have ho := hS.vals
    rw [hg] at ho
    have hgg := hR g (.inr ⟨_, hg, rfl⟩)
    refine ⟨g, hg, ?_⟩
    rw [hk.cell (a := ⟨g, k, none⟩) hgg.1 hgg.2, World.ownsRow.cellAt ho _ (by omega)]
    unfold bAt vbs
    rw [List.getElem?_map, List.getElem?_eq_getElem hlt]; rfl
  have q0 := hBs.cell 0
  have q1 := hP.cell 0
  unfold SR.kv at q1
  simp at q0 q1
  refine callsIn_of_wp Try.func85 rfl h7 ?_ hro
  simp only [Try.ntmps85, List.size_toArray, List.length_cons, List.length_nil, Nat.reduceAdd, Nat.reduceSub, Array.replicate_succ, Array.replicate_zero, List.push_toArray, List.append_toArray, List.nil_append, List.cons_append]
  obtain ⟨Ak, ck, Av, cv⟩ := R
  simp only at hrd hrk hrv q1
  have RD := Lib.hid hrd
  have RK := Lib.hid hrk
  have RV := Lib.hid hrv
  clear hrd hrk hrv hBs hP hS hR
  gi_wp2
  gi_loopw [10] (fun i wr => ∃ k : Nat, k ≤ bs.length ∧ i = .int .i64 k ∧ J (List.range k) wr ∧ KpT cb cd n₀ W wr)
    (fun i _ => bs.length - (intOf i).toNat)
  case atStart => exact ⟨0, Nat.zero_le _, rfl, h0, KpT.refl _ _ _ _⟩
  case round =>
    obtain ⟨k, hk, rfl, hJs, hnx⟩ := hrel
    have hsz := hnx.1
    have KX := Lib.hid hnx
    by_cases hlt : k < bs.length
    · obtain ⟨c0, c1⟩ := RD.out wr hnx
      obtain ⟨g, rfl, c2⟩ := RK.out wr hnx k hlt
      obtain ⟨gv, rfl, c3⟩ := RV.out wr hnx k hlt
      obtain ⟨fn, tmps, assign, body, hy, hR⟩ := hY (List.range k) k _ hJs (by simpa using hlt)
      unfold encB at hy
      clear hnx
      gi_wp2
      refine hR.mono ?_
      rintro e W3 (⟨rfl, hJ3, hk3⟩ | ⟨rfl, hJx3⟩)
      · gi_wp2
        go_roundw
        case rel => exact ⟨k + 1, by omega, by go_num, by rw [range_take]; exact hJ3, KX.out.trans hk3⟩
        case measure => simp [intOf]; omega
      · gi_wp2
        refine bodyPost_ret (results_none rfl _ _ _) rfl ?_
        exact ⟨⟨_, rfl⟩, .inr ⟨_, ⟨k + 1, by omega, (range_take k).symm⟩, hJx3⟩⟩
    · obtain rfl : k = bs.length := by omega
      gi_wp2
      go_end0
      exact ⟨⟨_, rfl⟩, .inl ⟨_, rfl, hJs⟩⟩
theorem allB_any (p : Nat) (w : World) :
    Calls Try.prog 59 #[.pointer (some ⟨p, 0, none⟩)] w fun e w' => e = .returned (.func (.func 85) #[] #[.pointer (some ⟨w.heap.size, 0, none⟩)]) ∧ w.alloc (.cells #[.pointer (some ⟨p, 0, none⟩)] 118) = w' := by
  go_enter Try.func59, Try.ntmps59
  go_wp2
  go_ret
  exact ⟨rfl, rfl⟩
theorem allB_stops (n : Nat) (hn : 1 ≤ n) (Bs n₀ cb cd p lo : Nat) (R : SR) (bs : List (Int × Bool)) (w : World) (hW0 : n₀ ≤ w.heap.size)
    (hBs : Box w Bs 118 #[.pointer (some ⟨p, 0, none⟩)]) (hB0 : Bs < n₀) (hB1 : Bs ≠ cb ∧ Bs ≠ cd)
    (hP : Box w p 87 #[R.kv bs.length, R.vv bs.length]) (hP0 : p < n₀) (hP1 : p ≠ cb ∧ p ≠ cd)
    (hS : SLB w lo R bs) (hR : ∀ g, R.at_ g → g < n₀ ∧ g ≠ cb ∧ g ≠ cd) :
    SeqStopsK Fence.wide n Try.prog 85 #[.pointer (some ⟨Bs, 0, none⟩)] (encB bs) (KpT cb cd n₀) (fun ys => ys = List.range bs.length) (fun pre => ∃ k, k ≤ bs.length ∧ pre = List.range k) bs.length w := fun l J Jx W hW hJ _ hY h0 =>
  allB1_in Fence.wide n trivial rfl hn l Bs n₀ cb cd p lo R bs J Jx W (Nat.le_trans hW0 hW.size) hY (hBs.below hW (by omega)) hB0 hB1 (hP.below hW (by omega)) hP0 hP1 (hS.below hW) hR h0
end Go.Proofs.Ytbepfgmonadadaa

-- Clone: slices.Clone at int64, as the program calls it. No statement of the program is proved here.
namespace Go.Proofs.Ytbepfgmonadadaa
set_option maxRecDepth 100000
set_option linter.unusedVariables false
set_option linter.unusedSimpArgs false
open Go.RowKit

set_option maxHeartbeats 2000000 in
theorem clone_any (A : Option Addr) (n c : Nat) (xs : List Int) (B : Nat) (w : World) (hn : n ≤ 1048576) (hB : B ≤ w.heap.size) (hb : Ints w B A n xs) :
    Calls Try.prog 83 #[.slice A n c] w fun e w' => ∃ A' n' c', e = .returned (.slice A' n' c') ∧ OwnI w' w.heap.size A' n' c' xs ∧ Below w.heap.size w w' := by
  obtain ⟨i0, hi0, hz0, hz1, hz2⟩ := info_parts Try.infoInsI
  have hlen := hb.1
  have hq : ∀ (w : World) (a : Option Addr) (n c n' c' : Nat), (binOp .eql 29 (.slice a n c) (.slice none n' c')).run Try.prog w = .ok (.bool a.isNone) w := fun w a n c n' c' => Lib.run_eql_slice_nil w _ _ a n c n' c' Try.underlying29
  have mixed : Try.prog.follows .mixedOrders = true := by kernel_rfl
  have HB := Lib.hid (hb.more hB)
  clear hb
  cases A with
  | none =>
    have hn0 : n = 0 := by
      rcases Nat.eq_zero_or_pos n with h | h
      · exact h
      · obtain ⟨b, off, e, _⟩ := HB.out.2 h
        cases e
    subst hn0
    have hx : xs = [] := List.length_eq_zero_iff.1 hlen
    subst hx
    go_enter Try.func83, Try.ntmps83
    go_wp2
    go_ret
    exact ⟨none, 0, 0, rfl, World.ownsRow_nil _ _ _ _, Below.refl _ _⟩
  | some a =>
    go_enter Try.func83, Try.ntmps83
    go_wp2_with (at_builtin; refine wpList_append_own _ rfl _ _ 29 rfl w.heap.size 2 i0 (.int .i64 0) 1 8 Try.underlying29 hi0 hz0 hz1 hz2 rfl (by decide) _ _ _ rfl (World.ownsRow_made w #[] 0 (Nat.le_refl _) (Nat.zero_le _) rfl) a n c (xs.map (Value.int .i64)) rfl ?qc1 ?qc2 ?qc3 ?qc4 ?qc5 ?qc6 ?_)
    case qc1 => simp; omega
    case qc2 =>
      intro j u hj
      have hjn : j < n := by
        have := (List.getElem?_eq_some_iff.1 hj).1
        simp at this
        omega
      obtain ⟨b, off, e, hb, hc⟩ := (HB.out.alloc (Nat.le_refl _) (.cells #[] 2)).at_ hjn
      cases e
      rw [Addr.add_lit]
      rw [List.getElem?_map, List.getElem?_eq_getElem (by omega)] at hj
      rw [List.getElem?_eq_getElem (by omega)] at hc
      cases hj
      exact hc
    case qc3 => intro u hu; obtain ⟨x, _, rfl⟩ := List.mem_map.1 hu; rfl
    case qc4 => unfold maxLen; omega
    case qc5 => omega
    case qc6 => simp
    intro v' w1 hown hgrow hnil
    have H := Lib.hid hown
    obtain ⟨A', c', rfl⟩ := own_slice hown
    have hb2 := ((Below.refl w.heap.size w).alloc (Nat.le_refl _) (.cells #[] 2)).grown hgrow (by simp) (by intro k hk; simp [Value.ownBlock] at hk; omega)
    have H2 := Lib.hid hb2
    clear hown hgrow hnil hb2
    go_wp2
    go_ret
    exact ⟨A', n, c', rfl, H.out, H2.out⟩
end Go.Proofs.Ytbepfgmonadadaa

-- ReachF: The program's way through the nodes that are reached.
namespace Go.Proofs.Ytbepfgmonadadaa
set_option maxRecDepth 100000
set_option linter.unusedVariables false
set_option linter.unusedSimpArgs false
open Go.RowKit

/-- all flags are up. -/
def allB (bs : List (Int × Bool)) : Bool := bs.all (·.2)
theorem allB_ins (bs : List (Int × Bool)) (i : Nat) (q : Int × Bool) : allB (insP bs i q) = (allB bs && q.2) := by
  unfold allB insP
  conv => rhs; rw [← List.take_append_drop i bs]
  rw [List.all_append, List.all_append, List.all_cons]
  cases (List.take i bs).all (·.2) <;> cases (List.drop i bs).all (·.2) <;> cases q.2 <;> rfl
theorem kbs_ins (bs : List (Int × Bool)) (m : Int) (x : Bool) (h : RiseI (kbs bs)) (ht : hitI (kbs bs) m = false) : m ∉ kbs bs ∧ kbs (insP bs (lowI (kbs bs) m) (m, x)) = insI (kbs bs) m := by
  have hm : m ∉ kbs bs := fun hm => by rw [(hitI_mem _ _ h).2 hm] at ht; cases ht
  exact ⟨hm, by rw [← insP_low _ _ hm]; exact insP_map _ _ _ _⟩
theorem NV.kids {w : World} {B : Nat} {x : NV} (h : NodeIn w B x.v x.nd) : Kids w B x.Ak x.nk x.nd.kids := by
  obtain ⟨Ap, np, cp, Ak, nk, ck, e, _, _, _, _, h2⟩ := h
  unfold NV.v at e
  injection e with e
  simp at e
  obtain ⟨⟨e1, e2, e3⟩, e4, e5, e6⟩ := e
  rw [e4, e5]
  exact h2
/-- what stands under a name in the list is what stands there among the cells. -/
theorem NodesIs.hit {w : World} {lo : Nat} {R : SR} {ps : List (Int × NV)} {cs : List (Int × List Int)} (h : NodesIs w lo R ps cs) (hr : Right cs) {m : Int} {x : NV} {b : Bool} (hat : AtIs ps m x b) : HitIs cs m x.nd b ∧ Kids w w.heap.size x.Ak x.nk x.nd.kids := by
  have hf := h.find hr m
  rcases hat with ⟨ht, rfl, hi, he⟩ | ⟨ht, rfl, rfl⟩
  · obtain ⟨hi2, hfe⟩ := hf.1 ht
    refine ⟨.inl ⟨by omega, ?_⟩, NV.kids (h.sl.nodes (m, x) (by rw [← he]; exact List.getElem_mem hi))⟩
    have h1 := (h.at_ _ hi).2
    rw [List.getElem?_eq_getElem hi, he] at h1
    rw [hfe]
    exact h1
  · exact ⟨.inr ⟨hf.2 ht, rfl, rfl⟩, Kids.none_⟩
/-- how long the list is that stands in a box. -/
def cellLen (w : World) (g : Nat) : Nat := lenOf ((w.cell? ⟨g, 0, none⟩).getD (.int .i64 0))
theorem cellLen_is {w : World} {g : Nat} {t : TypeId} {R : SR} {n : Nat} (h : Box w g t #[R.kv n, R.vv n]) : cellLen w g = n := by
  unfold cellLen
  rw [h.cell 0]
  rfl
theorem SLB.base {w : World} {lo lo' : Nat} {R : SR} {bs : List (Int × Bool)} (h : SLB w lo R bs) (hl : lo' ≤ lo) : SLB w lo' R bs := by
  refine ⟨h.keys.base hl, ⟨h.vals.1, ?_⟩, h.rise, h.len⟩
  rcases h.vals.2 with h | ⟨g, cap, cur, hv, hg, r⟩
  · exact .inl h
  · exact .inr ⟨g, cap, cur, hv, Nat.le_trans hl hg, r⟩
set_option maxHeartbeats 4000000 in
theorem reachedFrom_any (lo0 : Nat) (R : SR) (ps : List (Int × NV)) (cs : List (Int × List Int)) (Ar : Option Addr) (nr cr : Nat) (roots : List Int) (B : Nat) (w : World) (hD : NodesIs w lo0 R ps cs) (hR : Right cs) (hnr : nr ≤ 80) (hcr : nr ≤ cr) (hAr : Ar = none → cr = 0) (hB : B ≤ w.heap.size) (hbr : Ints w B Ar nr roots) :
    Calls Try.prog 58 #[.agg #[R.kv ps.length, R.vv ps.length], .slice Ar nr cr] w fun e w' => ∃ R' bs, e = .returned (.agg #[R'.kv bs.length, R'.vv bs.length]) ∧ SLB w' w.heap.size R' bs ∧ Going cs roots (kbs bs) [] (allB bs) ∧ Below w.heap.size w w' := by
  have HD := Lib.hid hD
  have RT := Lib.hid hR
  have hlr := hbr.1
  have hcs : cs.length ≤ 80 := hR.1
  obtain ⟨i0, hi, hz0, hz1, hz2⟩ := info_parts Try.infoI
  have HI := Lib.hid hi
  have HZ0 := Lib.hid hz0
  have HZ1 := Lib.hid hz1
  have HZ2 := Lib.hid hz2
  clear hi hz0 hz1 hz2
  obtain ⟨w0, hw0⟩ : ∃ w0, ((w.alloc (.cells #[R.kv ps.length, R.vv ps.length] 65)).alloc (.cells #[.slice none 0 0, .slice none 0 0] 87)).alloc (.cells #[.slice none 0 0, .slice none 0 0] 87) = w0 := ⟨_, rfl⟩
  have N0 := Lib.hid (show Box w0 w.heap.size 65 #[R.kv ps.length, R.vv ps.length] from hw0 ▸ heap3_0 _ _ _ _)
  have Y0 := Lib.hid (show Box w0 (w.heap.size + 1) 87 #[.slice none 0 0, .slice none 0 0] from hw0 ▸ heap3_1 _ _ _ _)
  have P0 := Lib.hid (show Box w0 (w.heap.size + 1 + 1) 87 #[.slice none 0 0, .slice none 0 0] from hw0 ▸ heap3_2 _ _ _ _)
  have s0 : w0.heap.size = w.heap.size + 3 := hw0 ▸ size3 _ _ _ _
  have B0 := Lib.hid (show Below w.heap.size w w0 from hw0 ▸ below3 _ _ _ _)
  have HBR := Lib.hid ((hbr.more hB).below B0.out)
  clear hD hR hbr
  go_enter Try.func58, Try.ntmps58
  go_wp2_with fail
  clear hw0
  refine (clone_any Ar nr cr roots w.heap.size w0 (by omega) (by omega) HBR.out).mono ?_
  rintro e w2 ⟨A2, n2, c2, rfl, o2, b2⟩
  have hn2 := o2.len
  have s2 := b2.size
  have O2 := Lib.hid o2
  have N2 := Lib.hid (N0.out.below b2 (by omega))
  have Y2 := Lib.hid (Y0.out.below b2 (by omega))
  have P2 := Lib.hid (P0.out.below b2 (by omega))
  have B2 := Lib.hid (B0.out.trans (b2.mono (by omega)))
  clear o2 b2
  go_wp2
  go_loopw [6] (fun t wr => ∃ (At : Option Addr) (nt ct : Nat) (R' : SR) (bs : List (Int × Bool)) (todo : List Int), t = .slice At nt ct ∧ OwnI wr (w.heap.size + 3) At nt ct todo ∧ Box wr (w.heap.size + 1 + 1) 87 #[R'.kv bs.length, R'.vv bs.length] ∧ SLB wr (w.heap.size + 3) R' bs ∧
      Box wr w.heap.size 65 #[R.kv ps.length, R.vv ps.length] ∧ Box wr (w.heap.size + 1) 87 #[.slice none 0 0, .slice none 0 0] ∧ (∀ g, (Value.slice At nt ct).ownBlock = some g → ¬ R'.at_ g) ∧ Going cs roots (kbs bs) todo (allB bs) ∧ nt + 17 * (1360 - bs.length) ≤ 23200 ∧ Below w.heap.size w wr)
    (fun t wr => lenOf t + 17 * (1360 - cellLen wr (w.heap.size + 1 + 1)))
  case atStart =>
    exact ⟨A2, n2, c2, SR0, [], roots, rfl, by rw [← s0]; exact O2.out, P2.out, SLB.nil _ _, N2.out, Y2.out, (fun g hg h => by rcases h with ⟨a, ha, _⟩ | ⟨a, ha, _⟩ <;> cases ha), Going.start cs roots, by simp; omega, B2.out⟩
  case round =>
    obtain ⟨At, nt, ct, R', bs, todo, rfl, hot, hpb, hsb, hnb, hyb, hap, hgo, hbd, hbel⟩ := hrel
    have hlt := hot.len
    have hgl := hgo.len
    rw [kbs_len] at hgl
    have hs0 := hbel.size
    have hcl := cellLen_is hpb
    have hp1 := hpb.lt
    have TR := Lib.hid hot
    have PB := Lib.hid hpb
    have SB := Lib.hid hsb
    have NB := Lib.hid hnb
    have YB := Lib.hid hyb
    have AP := Lib.hid hap
    have GR := Lib.hid hgo
    have BR := Lib.hid hbel
    have CL := Lib.hid hcl
    clear hot hpb hsb hnb hyb hap hgo hbel hcl
    by_cases h0 : nt = 0
    · obtain rfl := h0
      obtain rfl : todo = [] := List.eq_nil_of_length_eq_zero hlt
      have p0 := PB.out.cell 0
      have p1 := PB.out.cell 1
      have y0 := YB.out.cell 0
      have y1 := YB.out.cell 1
      have f0 := YB.out.free
      unfold SR.kv at p0
      unfold SR.vv at p1
      simp at p0 p1 y0 y1
      have y2 := set2 YB.out (R'.kv bs.length) (R'.vv bs.length)
      unfold SR.kv SR.vv at y2
      have Y2 := Lib.hid y2
      have hnb : ¬ R'.at_ (w.heap.size + 1) := fun e => by have := (SB.out.lt _ e).1; omega
      have NBX := Lib.hid hnb
      clear y2 hnb
      go_wp2
      refine bodyPost_ret (v := .agg #[.slice R'.Ak bs.length R'.ck, .slice R'.Av bs.length R'.cv]) (results_cell_row Try.results58 _ _ (w.heap.size + 1) _ _ _ _ rfl Y2.out.1 Try.underlying87 rfl (by kernel_rfl)) rfl ?_
      exact ⟨R', bs, rfl, (SB.out.touch Y2.out.2 (fun g hg e => NBX.out (e ▸ hg))).base (by omega), GR.out, BR.out.trans (Y2.out.2.below hs0 (fun k hk e => by omega))⟩
    · obtain ⟨q, rfl⟩ : ∃ q, nt = q + 1 := ⟨nt - 1, by omega⟩
      obtain ⟨gt, hgt, hgt1, hgt2⟩ := TR.out.form (by omega)
      subst hgt
      have hq0 := TR.out.cell (k := q) (by omega)
      have hlast := TR.out.last
      obtain ⟨m, hmq⟩ : ∃ m, todo[q]?.getD 0 = m := ⟨_, rfl⟩
      rw [hmq] at hq0 hlast
      have G1 := GR.out
      rw [hlast] at G1
      have GR := Lib.hid G1
      have hct := TR.out.cap
      have T1 := Lib.hid TR.out.short
      have hgr : ¬ R'.at_ gt := AP.out gt rfl
      have HGR := Lib.hid hgr
      clear G1 TR hlast hmq AP hgr
      generalize todo.take q = td at T1 GR
      have hd : decide ((0 : Int) < ((q + 1 : Nat) : Int)) = true := decide_eq_true (by omega)
      have hwk : IntKind.i64.wrap (((q + 1 : Nat) : Int) - 1) = (q : Int) := by rw [IntKind.wrap_i64]; omega
      by_cases hm0 : m = 0
      · have hb0 : (m == 0) = true := by simp [hm0]
        go_wp2
        go_roundw
        case rel => exact ⟨some ⟨gt, 0, none⟩, q, ct, R', bs, td, rfl, T1.out, PB.out, SB.out, NB.out, YB.out, (fun g hg => by simp [Value.ownBlock] at hg; subst hg; exact HGR.out), GR.out.skip (.inl hm0), by omega, BR.out⟩
        case measure => rw [CL.out]; simp [lenOf]
      · have hb0 : (m == 0) = false := by simpa using hm0
        have HM0 := Lib.hid hm0
        clear hm0
        go_wp2_with fail
        refine (at_any w.heap.size lo0 R ps m wr NB.out (HD.out.below BR.out).sl).mono ?_
        rintro e w4 ⟨x, r, rfl, hat, b4⟩
        have hs4 := b4.size
        have hit := (HD.out.below BR.out).hit RT.out hat
        have h16 := hit_kids hit.1
        have HIT := Lib.hid hit.1
        have hatx : Kids w w.heap.size x.Ak x.nk x.nd.kids := (HD.out.hit RT.out hat).2
        have KX := Lib.hid hatx
        have hkl := hatx.1
        have T4 := Lib.hid (T1.out.below b4)
        have P4 := Lib.hid (PB.out.below b4 (by omega))
        have S4 := Lib.hid (SB.out.below b4)
        have N4 := Lib.hid (NB.out.below b4 (by omega))
        have Y4 := Lib.hid (YB.out.below b4 (by omega))
        have B4 := Lib.hid (BR.out.trans (b4.mono hs0))
        have RL := Lib.hid (fun g hg => (SB.out.lt g hg).2)
        clear hat hit hatx b4
        obtain ⟨Ap, np, cp, Ak, nk, ck, nd⟩ := x
        simp only at h16 KX HIT hkl
        unfold NV.v
        obtain ⟨w5, hw5⟩ : ∃ w5, w4.alloc (.cells #[.int .i64 nd.kind, .slice Ap np cp, .slice Ak nk ck, .string nd.val] 32) = w5 := ⟨_, rfl⟩
        have b5 : Below w4.heap.size w4 w5 := hw5 ▸ (Below.refl _ _).alloc (Nat.le_refl _) _
        have X5 := Lib.hid (show Box w5 w4.heap.size 32 #[.int .i64 nd.kind, .slice Ap np cp, .slice Ak nk ck, .string nd.val] from hw5 ▸ heap_alloc_new _ _)
        have s5 : w5.heap.size = w4.heap.size + 1 := hw5 ▸ by simp
        have T5 := Lib.hid (T4.out.below b5)
        have P5 := Lib.hid (P4.out.below b5 (by omega))
        have S5 := Lib.hid (S4.out.below b5)
        have N5 := Lib.hid (N4.out.below b5 (by omega))
        have Y5 := Lib.hid (Y4.out.below b5 (by omega))
        have B5 := Lib.hid (B4.out.trans (b5.mono (by omega)))
        clear b5
        go_wp2_with fail
        clear hw5
        refine (putB_any (w.heap.size + 1 + 1) (w.heap.size + 3) R' bs m r w5 P5.out S5.out (by omega) (by omega)).mono ?_
        rintro e w6 (⟨h6, rfl, b6⟩ | ⟨h6, rfl, R6, p6, l6, f6, t6⟩)
        · have hin : m ∈ kbs bs := (hitI_mem _ _ SB.out.rise).1 h6
          have HIN := Lib.hid hin
          have hs6 := b6.size
          have T6 := Lib.hid (T5.out.below b6)
          have P6 := Lib.hid (P5.out.below b6 (by omega))
          have S6 := Lib.hid (S5.out.below b6)
          have N6 := Lib.hid (N5.out.below b6 (by omega))
          have Y6 := Lib.hid (Y5.out.below b6 (by omega))
          have B6 := Lib.hid (B5.out.trans (b6.mono (by omega)))
          have C6 := Lib.hid (cellLen_is P6.out)
          clear hin h6 b6
          go_wp2
          go_roundw
          case rel => exact ⟨some ⟨gt, 0, none⟩, q, ct, R', bs, td, rfl, T6.out, P6.out, S6.out, N6.out, Y6.out, (fun g hg => by simp [Value.ownBlock] at hg; subst hg; exact HGR.out), GR.out.skip (.inr HIN.out), by omega, B6.out⟩
          case measure => rw [CL.out, C6.out]; simp [lenOf]
        · have hki := kbs_ins bs m r SB.out.rise h6
          have gt6 := GR.out.take RT.out HM0.out hki.1 HIT.out
          have hs6 := t6.size
          have hgn : ∀ g, g < w5.heap.size → ¬ R'.at_ g → g ≠ w.heap.size + 1 + 1 → w6.heap[g]? = w5.heap[g]? := fun g h1 h2 h3 => t6.block g h1 (fun e => e.elim h3 h2)
          have hno : ∀ g, g < w.heap.size + 3 ∨ wr.heap.size ≤ g → ¬ R'.at_ g := fun g h1 h2 => by
            have h3 := RL.out g h2
            have h4 := (SB.out.lt g h2).1
            omega
          have X6 := Lib.hid (show Box w6 w4.heap.size _ _ from (hgn _ (by omega) (hno _ (by omega)) (by omega)).trans X5.out)
          have N6 := Lib.hid (show Box w6 w.heap.size _ _ from (hgn _ (by omega) (hno _ (by omega)) (by omega)).trans N5.out)
          have Y6 := Lib.hid (show Box w6 (w.heap.size + 1) _ _ from (hgn _ (by omega) (hno _ (by omega)) (by omega)).trans Y5.out)
          have T6 := Lib.hid (T5.out.touch t6 (fun g hg e => by simp [Value.ownBlock] at hg; subst hg; exact e.elim (fun e => by omega) HGR.out))
          have B6 := Lib.hid (B5.out.trans (t6.below (by omega) (fun k hk e => e.elim (fun e => by omega) (fun e => hno k (by omega) e))))
          have P6 := Lib.hid p6
          have L6 := Lib.hid l6
          have hgr6 : ¬ R6.at_ gt := fun e => (f6 gt e).elim HGR.out (fun e => by omega)
          have HG6 := Lib.hid hgr6
          have RL6 := Lib.hid (fun g hg => (l6.lt g hg).2)
          have hl6 : (insP bs (lowI (kbs bs) m) (m, r)).length = bs.length + 1 := insP_len _ _ _ (lowB_len bs m)
          rw [← hl6] at p6
          have C6 := Lib.hid (cellLen_is p6)
          have hgl6 := gt6.len
          rw [insI_len, kbs_len] at hgl6
          rw [← hki.2, show (allB bs && r) = allB (insP bs (lowI (kbs bs) m) (m, r)) from (allB_ins bs (lowI (kbs bs) m) (m, r)).symm] at gt6
          have GT := Lib.hid gt6
          have P6 := Lib.hid p6
          have q62 := X6.out.cell 2
          simp at q62
          have hx6 := X6.out.lt
          generalize insP bs (lowI (kbs bs) m) (m, r) = bs6 at hl6 L6 GT C6 P6 RL6
          clear hki gt6 hgn hno p6 l6 f6 t6 hgr6 h6
          go_wp2
          go_loopw [6, 42] (fun t i wr => ∃ (k gk ck' : Nat), k ≤ nk ∧ i = .int .i64 k ∧ t = .slice (some ⟨gk, 0, none⟩) (q + k) ck' ∧ (gk = gt ∨ w6.heap.size ≤ gk) ∧ OwnI wr (w.heap.size + 3) (some ⟨gk, 0, none⟩) (q + k) ck' (td ++ (nd.kids.take k).map (·.2)) ∧ Touch (fun b => b = gt ∨ w6.heap.size ≤ b) w6 wr) (fun _ i _ => nk - (intOf i).toNat)
          case atStart => exact ⟨0, gt, ct, Nat.zero_le _, rfl, rfl, .inl rfl, by simpa using T6.out, Touch.of_below (Below.refl _ _)⟩
          case round =>
            obtain ⟨k, gk, ck', hkn, rfl, rfl, hgk, htk, htt⟩ := hrel
            have TK := Lib.hid htk
            have TT := Lib.hid htt
            have hsv : w6.heap.size ≤ wr.heap.size := htt.size
            have bv := B6.out.trans (htt.below (show w.heap.size ≤ w6.heap.size by omega) (fun b hb e => by rcases e with e | e <;> omega))
            have BV := Lib.hid bv
            have KV := Lib.hid (KX.out.below bv)
            clear htk htt bv q62
            by_cases hlk : k < nk
            · obtain ⟨bk, off, rfl, hbk, hk0, hk1⟩ := KV.out.at_ hlk
              have hst : (nd.kids.take (k + 1)).map (·.2) = (nd.kids.take k).map (·.2) ++ [(nd.kids[k]?.getD (0, 0)).2] := by
                rw [List.take_succ_eq_append_getElem (by omega), List.map_append, List.getElem?_eq_getElem (by omega)]; rfl
              have HST := Lib.hid hst
              obtain ⟨L, hL⟩ : ∃ L, td ++ (nd.kids.take k).map (·.2) = L := ⟨_, rfl⟩
              have TK := TK.out
              rw [hL] at TK
              have TK := Lib.hid TK
              have HL := Lib.hid hL
              clear hst hL
              generalize (nd.kids[k]?.getD (0, 0)).1 = y at hk0
              generalize (nd.kids[k]?.getD (0, 0)).2 = z at hk1 HST
              obtain ⟨w1, hw1⟩ : ∃ w1, wr.alloc (.cells #[.int .i64 y, .int .i64 z] 97) = w1 := ⟨_, rfl⟩
              have b1 : Below wr.heap.size wr w1 := hw1 ▸ (Below.refl _ _).alloc (Nat.le_refl _) _
              have C1 := Lib.hid (show Box w1 wr.heap.size 97 #[.int .i64 y, .int .i64 z] from hw1 ▸ heap_alloc_new _ _)
              have s1 : w1.heap.size = wr.heap.size + 1 := hw1 ▸ by simp
              have b12 : Below wr.heap.size wr (w1.alloc (.cells #[.int .i64 z] 2)) := b1.trans (((Below.refl w1.heap.size w1).alloc (Nat.le_refl _) _).mono (by omega))
              have BB := Lib.hid b12
              have c11 := C1.out.cell 1
              simp at c11
              clear b1 b12
              go_wp2_with (at_builtin; (refine wpList_append_lies _ rfl _ _ 29 rfl (w.heap.size + 3) 2 i0 (.int .i64 0) 1 8 Try.underlying29 HI.out HZ0.out HZ1.out HZ2.out rfl (by decide) (.slice (some ⟨gk, 0, none⟩) (q + k) ck') (q + k) (L.map (Value.int .i64)) (by simp [Act.eval]) (own_touch (S := fun _ => False) TK.out (Touch.of_below BB.out) (fun _ _ h => h)) ⟨w1.heap.size, 0, none⟩ 1 1 [.int .i64 z] (by simp [Act.eval]) rfl ?bq1 ?bq2 (by omega) ?bq3 ?bq4 ?bq5 _ rfl ?_))
              case bq2 => first | rfl | (intro u hu; simp at hu; subst hu; rfl)
              case bq3 => unfold maxLen; omega
              case bq4 => omega
              case bq5 => first | omega | (simp; omega)
              intro g7 c7 w7 hown7 hgrow7 hor7 _
              have t7 : Touch (fun b => b = gt ∨ w6.heap.size ≤ b) wr w7 := (Touch.of_below BB.out).trans ((Touch.of_grown hgrow7).mono (fun b e => by simp [Value.ownBlock] at e; omega))
              have h7 : g7 = gt ∨ w6.heap.size ≤ g7 := by
                rcases hor7 with e | e <;> (try simp [Value.ownBlock] at e) <;> omega
              have o7 : OwnI w7 (w.heap.size + 3) (some ⟨g7, 0, none⟩) (q + (k + 1)) c7 (td ++ (nd.kids.take (k + 1)).map (·.2)) := by
                rw [HST.out, ← List.append_assoc, HL.out]
                unfold OwnI
                rw [List.map_append]
                exact hown7
              have O7 := Lib.hid o7
              have T7 := Lib.hid (TT.out.trans t7)
              have H7 := Lib.hid h7
              clear hown7 hgrow7 hor7 t7 o7 h7 hk0 hk1 c11 hw1
              go_wp2
              go_roundw
              case rel => exact ⟨k + 1, g7, c7, by omega, by go_num, rfl, H7.out, O7.out, T7.out⟩
              case measure => simp [intOf]; omega
            · obtain rfl : k = nk := by omega
              have tk8 := TK.out
              rw [List.take_of_length_le (by omega)] at tk8
              have T8 := Lib.hid tk8
              have hgn : ∀ g, g < w6.heap.size → g ≠ gt → wr.heap[g]? = w6.heap[g]? := fun g h1 h2 => TT.out.block g h1 (fun e => by rcases e with e | e <;> omega)
              have P8 := Lib.hid (show Box wr (w.heap.size + 1 + 1) _ _ from (hgn _ (by omega) (by omega)).trans P6.out)
              have N8 := Lib.hid (show Box wr w.heap.size _ _ from (hgn _ (by omega) (by omega)).trans N6.out)
              have Y8 := Lib.hid (show Box wr (w.heap.size + 1) _ _ from (hgn _ (by omega) (by omega)).trans Y6.out)
              have L8 := Lib.hid (L6.out.touch TT.out (fun g hg e => by
                rcases e with e | e
                · subst e; exact HG6.out hg
                · have := RL6.out g hg; omega))
              have C8 := Lib.hid (cellLen_is P8.out)
              clear tk8 hgn
              go_wp2
              go_roundw
              case rel =>
                exact ⟨some ⟨gk, 0, none⟩, q + k, ck', R6, bs6, td ++ nd.kids.map (·.2), rfl, T8.out, P8.out, L8.out, N8.out, Y8.out, (fun g hg e => by
                  simp [Value.ownBlock] at hg
                  subst hg
                  rcases hgk with e2 | e2
                  · subst e2; exact HG6.out e
                  · have := RL6.out _ e; omega), GT.out, by omega, BV.out⟩
              case measure => rw [CL.out, C8.out]; simp [lenOf]; omega
end Go.Proofs.Ytbepfgmonadadaa

-- ReachP: The program's ReachOf: for all cells and roots.
namespace Go.Proofs.Ytbepfgmonadadaa
set_option maxRecDepth 100000
set_option linter.unusedVariables false
set_option linter.unusedSimpArgs false
open Go.RowKit Go.Shelf
attribute [local go_sem] Oper.semAt_some

theorem OwnI.abide {X Y : World} {row : Option Nat} {lo n c : Nat} {A : Option Addr} {xs : List Int} (h : OwnI X lo A n c xs) (hg : X.grownBy Y row) (hr : ∀ r, row = some r → ∃ o : Obj, X.heap[r]? = some o ∧ o.isCells = false) : OwnI Y lo A n c xs :=
  own_touch h (Touch.of_grown hg) fun g hv e => by
    obtain ⟨o, h1, h2⟩ := hr g e.symm
    obtain ⟨cur, z, h3⟩ := own_cells h g hv
    rw [h1] at h3; cases h3; cases h2
theorem kbs_range (bs : List (Int × Bool)) : (List.range bs.length).map (fun k => (bAt bs k).1) = kbs bs := by
  apply List.ext_getElem?
  intro i
  unfold kbs bAt
  by_cases h : i < bs.length
  · simp [h]
  · simp [h]
theorem allB_range (bs : List (Int × Bool)) : (List.range bs.length).all (fun k => (bAt bs k).2) = allB bs := by
  have h : (List.range bs.length).map (fun k => (bAt bs k).2) = bs.map (·.2) := by
    apply List.ext_getElem?
    intro i
    unfold bAt
    by_cases h : i < bs.length
    · simp [h]
    · simp [h]
  unfold allB
  have e1 := congrArg (fun l => l.all id) h
  simp only [List.all_map] at e1
  exact e1
/-- one more number behind the others, within a round. -/
theorem names_push {W w7 : World} {cn cw n₀ b0 q c c7 : Nat} {A A7 : Option Addr} {L : List Int} {z : Int} {b : Bool} (hn : cn < n₀) (hw : cw < n₀) (hne : cn ≠ cw) (hb0 : b0 ≤ cn) (hW : n₀ ≤ W.heap.size)
    (bn : Boxed W cn 29 (.slice A q c)) (bw : Boxed W cw 4 (.bool b)) (hrow : OwnI W n₀ A q c L)
    (h7 : w7.ownsRow n₀ 2 1 (.slice A7 (q + 1) c7) (q + 1) (L.map (Value.int .i64) ++ [.int .i64 z])) (hg : (W.alloc (.cells #[.int .i64 z] 2)).grownBy w7 (Value.slice A q c).ownBlock) (d : Bool) :
    Boxed w7 cn 29 (.slice A q c) ∧ Boxed (w7.setCell ⟨cn, 0, none⟩ (.slice A7 (q + 1) c7)) cw 4 (.bool b) ∧
    (∀ B, KeepsFrom B W ((w7.setCell ⟨cn, 0, none⟩ (.slice A7 (q + 1) c7)).setCell ⟨cw, 0, none⟩ (.bool d))) ∧
    KpT cn cw n₀ W ((w7.setCell ⟨cn, 0, none⟩ (.slice A7 (q + 1) c7)).setCell ⟨cw, 0, none⟩ (.bool d)) ∧
    Boxed ((w7.setCell ⟨cn, 0, none⟩ (.slice A7 (q + 1) c7)).setCell ⟨cw, 0, none⟩ (.bool d)) cn 29 (.slice A7 (q + 1) c7) ∧
    OwnI ((w7.setCell ⟨cn, 0, none⟩ (.slice A7 (q + 1) c7)).setCell ⟨cw, 0, none⟩ (.bool d)) n₀ A7 (q + 1) c7 (L ++ [z]) ∧
    Boxed ((w7.setCell ⟨cn, 0, none⟩ (.slice A7 (q + 1) c7)).setCell ⟨cw, 0, none⟩ (.bool d)) cw 4 (.bool d) ∧
    (b0 ≤ cw → Below b0 W ((w7.setCell ⟨cn, 0, none⟩ (.slice A7 (q + 1) c7)).setCell ⟨cw, 0, none⟩ (.bool d))) := by
  have b2 : Below W.heap.size W (W.alloc (.cells #[.int .i64 z] 2)) := (Below.refl _ _).alloc (Nat.le_refl _) _
  have t6 := Touch.of_grown hg
  have hng : ∀ g, (Value.slice A q c).ownBlock = some g → n₀ ≤ g := fun g hv => (hrow.lt g hv).1
  have t06 : Touch (fun g => (Value.slice A q c).ownBlock = some g) W w7 := (Touch.of_below b2).trans (t6.mono (fun k hk => hk.symm))
  have bn7 : Boxed w7 cn 29 (.slice A q c) := (t06.block cn bn.lt (fun e => by have := hng _ e; omega)).trans bn
  have bw7 : Boxed w7 cw 4 (.bool b) := (t06.block cw bw.lt (fun e => by have := hng _ e; omega)).trans bw
  obtain ⟨w8, hw8⟩ : ∃ w8, w7.setCell ⟨cn, 0, none⟩ (.slice A7 (q + 1) c7) = w8 := ⟨_, rfl⟩
  have t8 : Touch (fun g => g = cn) w7 w8 := by rw [← hw8]; exact touch_set w7 cn 0 _ rfl
  have bn8 : Boxed w8 cn 29 (.slice A7 (q + 1) c7) := by rw [← hw8]; exact bn7.set _
  have bw8 : Boxed w8 cw 4 (.bool b) := (t8.block cw bw7.lt (fun e => hne e.symm)).trans bw7
  rw [hw8]
  obtain ⟨w9, hw9⟩ : ∃ w9, w8.setCell ⟨cw, 0, none⟩ (.bool d) = w9 := ⟨_, rfl⟩
  have t9 : Touch (fun g => g = cw) w8 w9 := by rw [← hw9]; exact touch_set w8 cw 0 _ rfl
  have bw9 : Boxed w9 cw 4 (.bool d) := by rw [← hw9]; exact bw8.set _
  have bn9 : Boxed w9 cn 29 (.slice A7 (q + 1) c7) := (t9.block cn bn8.lt hne).trans bn8
  rw [hw9]
  have h7' : OwnI w7 n₀ A7 (q + 1) c7 (L ++ [z]) := by unfold OwnI; rw [List.map_append]; exact h7
  have o9 : OwnI w9 n₀ A7 (q + 1) c7 (L ++ [z]) := (h7'.touch t8 (fun g hv e => by have := (h7'.lt g hv).1; omega)).touch t9 (fun g hv e => by have := (h7'.lt g hv).1; omega)
  have tt : Touch (fun g => g = cn ∨ g = cw ∨ (Value.slice A q c).ownBlock = some g) W w9 := ((t06.mono (fun k hk => .inr (.inr hk))).trans (t8.mono (fun k hk => .inl hk))).trans (t9.mono (fun k hk => .inr (.inl hk)))
  refine ⟨bn7, bw8, fun B => ⟨tt.size, fun k o hk ho hnc => ?_⟩, ⟨tt.size, fun k hk hc => tt.block k (by omega) (fun e => by rcases e with e | e | e <;> first | exact hc.1 e | exact hc.2 e | (have := hng _ e; omega))⟩, bn9, o9, bw9, fun hb => tt.below (by omega) (fun k hk e => by rcases e with e | e | e <;> first | omega | (have := hng _ e; omega))⟩
  refine (tt.block k (Array.getElem?_eq_some_iff.1 ho).1 (fun e => ?_)).trans ho
  rcases e with e | e | e
  · subst e
    rw [show W.heap[k]? = _ from bn] at ho; cases ho; cases hnc
  · subst e
    rw [show W.heap[k]? = _ from bw] at ho; cases ho; cases hnc
  · obtain ⟨cur, zz, h3⟩ := own_cells hrow k e
    rw [h3] at ho; cases ho; cases hnc
set_option maxHeartbeats 4000000 in
theorem implReachOf_any (A : Option Addr) (n c : Nat) (cs : List (Int × List Int)) (Ar : Option Addr) (nr cr : Nat) (roots : List Int) (B : Nat) (w : World) (hn : n ≤ 1048576) (hc : n ≤ c) (hA : A = none → c = 0) (hnr : nr ≤ 1048576) (hcr : nr ≤ cr) (hAr : Ar = none → cr = 0) (hm : ∀ i, (cel cs i).2.length ≤ 1048576) (hB : B ≤ w.heap.size) (hb : Cells w B A n cs) (hbr : Ints w B Ar nr roots) :
    Calls Try.prog 28 #[.slice A n c, .slice Ar nr cr] w fun e w' => ∃ A' n' c' l b, e = .returned (.tuple #[.slice A' n' c', .bool b]) ∧ ReachIs cs roots l b ∧ OwnI w' w.heap.size A' n' c' l ∧ Below w.heap.size w w' := by
  have HB := Lib.hid hb
  have HBR := Lib.hid hbr
  have hlr := hbr.1
  clear hb hbr
  obtain ⟨i0, hi, hz0, hz1, hz2⟩ := info_parts Try.infoI
  have HI := Lib.hid hi
  have HZ0 := Lib.hid hz0
  have HZ1 := Lib.hid hz1
  have HZ2 := Lib.hid hz2
  clear hi hz0 hz1 hz2
  refine (callsIn_wide (n := 6)).1 ?_
  refine callsIn_of_wp_marks Try.func28 rfl trivial ?_ rfl
  simp only [Try.ntmps28, List.size_toArray, List.length_cons, List.length_nil, Nat.reduceAdd, Nat.reduceSub, Array.replicate_succ, Array.replicate_zero, List.push_toArray, List.append_toArray, List.nil_append, List.cons_append]
  gi_wp2_with fail
  refine ⟨trivial, ?_⟩
  refine (callsIn_wide.2 (nodesOf_any A n c cs B w hn hc hA hm hB HB.out)).mono ?_
  rintro e w2 ⟨R, ps, b, rfl, b2, hor⟩
  have s2 := b2.size
  have B2 := Lib.hid b2
  have hbr2 := HBR.out.below (b2.mono hB)
  have HBR := Lib.hid hbr2
  rcases hor with ⟨rfl, hR, hnd⟩ | ⟨rfl, hno, hR0, hp0⟩
  · obtain ⟨w3, hw3⟩ : ∃ w3, w2.alloc (.cells #[R.kv ps.length, R.vv ps.length] 65) = w3 := ⟨_, rfl⟩
    have b3 : Below w2.heap.size w2 w3 := hw3 ▸ (Below.refl _ _).alloc (Nat.le_refl _) _
    have P3 := Lib.hid (show Box w3 w2.heap.size 65 #[R.kv ps.length, R.vv ps.length] from hw3 ▸ heap_alloc_new _ _)
    have s3 : w3.heap.size = w2.heap.size + 1 := hw3 ▸ by simp
    have B3 := Lib.hid (B2.out.trans (b3.mono (by omega)))
    unfold SR.kv SR.vv at hw3
    have D3 := Lib.hid (hnd.below b3)
    have RT := Lib.hid hR
    have p0 := P3.out.cell 0
    have p1 := P3.out.cell 1
    unfold SR.kv at p0
    unfold SR.vv at p1
    simp at p0 p1
    have HBR := Lib.hid (HBR.out.below (b3.mono (show B ≤ w2.heap.size by omega)))
    clear hnd hR b2 b3 hbr2
    by_cases h80 : nr ≤ 80
    · have hd : decide ((80 : Int) < (nr : Int)) = false := decide_eq_false (by omega)
      unfold SR.kv SR.vv
      gi_wp2_with fail
      clear hw3 p0 p1
      refine ⟨trivial, ?_⟩
      refine (callsIn_wide.2 (reachedFrom_any w.heap.size R ps cs Ar nr cr roots B w3 D3.out RT.out h80 hcr hAr (by omega) HBR.out)).mono ?_
      rintro e w4 ⟨R', bs, rfl, hsl, hgo, b4⟩
      have s4 := b4.size
      have S4 := Lib.hid hsl
      have GO := Lib.hid hgo
      have B4 := Lib.hid (B3.out.trans (b4.mono (by omega)))
      clear hsl hgo b4
      unfold SR.kv SR.vv
      gi_wp2_with (refine ⟨trivial, ?_⟩; gi_at_call 59; refine (callsIn_wide.2 (allB_any _ _)).mono ?_; rintro e w' ⟨rfl, rfl⟩)
      obtain ⟨W3, hW3⟩ : ∃ W3, ((w4.alloc (.cells #[.slice R'.Ak bs.length R'.ck, .slice R'.Av bs.length R'.cv] 87)).alloc (.cells #[.slice none 0 0] 29)).alloc (.cells #[.bool true] 4) = W3 := ⟨_, rfl⟩
      have bR3 : Box W3 w4.heap.size 87 #[R'.kv bs.length, R'.vv bs.length] := hW3 ▸ heap3_0 _ _ _ _
      have bN3 : Boxed W3 (w4.heap.size + 1) 29 (.slice none 0 0) := hW3 ▸ heap3_1 _ _ _ _
      have bW3 : Boxed W3 (w4.heap.size + 1 + 1) 4 (.bool true) := hW3 ▸ heap3_2 _ _ _ _
      have hs3 : W3.heap.size = w4.heap.size + 3 := hW3 ▸ size3 _ _ _ _
      have hB3 : Below w4.heap.size w4 W3 := hW3 ▸ below3 _ _ _ _
      rw [hW3]
      clear hW3
      obtain ⟨W0, hW0⟩ : ∃ W0, W3.alloc (.cells #[.pointer (some ⟨w4.heap.size, 0, none⟩)] 118) = W0 := ⟨_, rfl⟩
      have hB30 : Below W3.heap.size W3 W0 := hW0 ▸ (Below.refl _ _).alloc (Nat.le_refl _) _
      have bP : Box W0 (w4.heap.size + 1 + 1 + 1) 118 #[.pointer (some ⟨w4.heap.size, 0, none⟩)] := by
        have h := heap_alloc_new W3 (.cells #[.pointer (some ⟨w4.heap.size, 0, none⟩)] 118)
        rw [hW0, hs3] at h
        exact h
      have hsz : W0.heap.size = w4.heap.size + 4 := by rw [← hW0]; simp [hs3]
      have bR := bR3.below hB30 (by omega)
      have bN : Boxed W0 (w4.heap.size + 1) 29 (.slice none 0 0) := (hB30.block _ (by omega)).trans bN3
      have bW : Boxed W0 (w4.heap.size + 1 + 1) 4 (.bool true) := (hB30.block _ (by omega)).trans bW3
      have hB4 : Below w4.heap.size w4 W0 := hB3.trans (hB30.mono (by omega))
      have hB0 : Below w.heap.size w W0 := B4.out.trans (hB4.mono (by omega))
      rw [hW0]
      clear hW0 bR3 bN3 bW3 hB3 hB30
      refine wpIn_rangeFunc_ownH rfl (by omega) (gf := 85) (lb := #[.pointer (some ⟨w4.heap.size + 1 + 1 + 1, 0, none⟩)]) rfl trivial (enters_of Try.func85 (by kernel_rfl) rfl)
        (allB_stops 5 (by omega) (w4.heap.size + 1 + 1 + 1) (w4.heap.size + 4) (w4.heap.size + 1) (w4.heap.size + 1 + 1) w4.heap.size w3.heap.size R' bs W0 (by omega) bP (by omega) (by omega) bR (by omega) (by omega) (S4.out.below hB4) (fun g hg => by have := (S4.out.lt g hg).2; omega))
        (fun h k => h.trans k) (KpT.put (by omega)) (Below.refl _ _) (fun _ => rfl)
        (fun pre W => ∃ A q c, Boxed W (w4.heap.size + 1) 29 (.slice A q c) ∧ OwnI W (w4.heap.size + 4) A q c (pre.map (fun k => (bAt bs k).1)) ∧ Boxed W (w4.heap.size + 1 + 1) 4 (.bool (pre.all (fun k => (bAt bs k).2))) ∧ KpT (w4.heap.size + 1) (w4.heap.size + 1 + 1) (w4.heap.size + 4) W0 W ∧ Below w.heap.size w W)
        (fun _ _ _ => False)
        (fun pre X Y row hs hg hr => by
          obtain ⟨A, q, c, h1, h2, h3, h4, h5⟩ := hs
          refine ⟨A, q, c, h1.kept hg (fun e => ?_), h2.abide hg (fun r e => (hr r e).2), h3.kept hg (fun e => ?_), h4.trans ⟨hg.size, fun k hk _ => hg.block k (by have := h4.1; omega) (fun e => by have := (hr k e.symm).1; omega)⟩, h5.grown hg (by have := h5.size; omega) (fun k e => by have := (hr k e).1; omega)⟩
          · obtain ⟨_, o, ho, hc⟩ := hr _ e.symm
            rw [show X.heap[w4.heap.size + 1]? = _ from h1] at ho; cases ho; cases hc
          · obtain ⟨_, o, ho, hc⟩ := hr _ e.symm
            rw [show X.heap[w4.heap.size + 1 + 1]? = _ from h3] at ho; cases ho; cases hc)
        (fun _ _ _ _ _ hs _ _ => hs)
        ⟨none, 0, 0, bN, OwnI.nil _ _, bW, KpT.refl _ _ _ _, hB0⟩
        (fun x a' W => a' = { tmps := #[.slice A n c, .slice Ar nr cr, undef, undef, .slice none 0 0, .bool false,
          .pointer (some ⟨w2.heap.size, 0, none⟩), .bool true,
          .pointer (some ⟨w4.heap.size, 0, none⟩),
          .pointer (some ⟨w4.heap.size + 1, 0, none⟩),
          .pointer (some ⟨w4.heap.size + 1 + 1, 0, none⟩), .int .i64 (bAt bs x).1, .bool (bAt bs x).2,
          .tuple #[.agg #[.slice R.Ak ps.length R.ck, .slice R.Av ps.length R.cv], .bool true],
          .slice A n c,
          .tuple #[.agg #[.slice R.Ak ps.length R.ck, .slice R.Av ps.length R.cv], .bool true],
          .agg #[.slice R.Ak ps.length R.ck, .slice R.Av ps.length R.cv], .bool true,
          .bool true, .bool false, .bool false, .slice Ar nr cr, .int .i64 nr,
          .bool false, .bool false,
          .agg #[.slice R.Ak ps.length R.ck, .slice R.Av ps.length R.cv], .slice Ar nr cr,
          .agg #[.slice R'.Ak bs.length R'.ck, .slice R'.Av bs.length R'.cv],
          .func (.func 85) #[] #[.pointer (some ⟨w4.heap.size + 1 + 1 + 1, 0, none⟩)], .int .i64 (bAt bs x).1, .bool (bAt bs x).2,
          undef, undef, undef, undef, undef, undef, undef, undef, undef, undef], defers := [] })
        (fun x a' _ X Y row hs hg hr => hs)
        ?assign ?body ?done ?stop
      case assign =>
        rintro l pre x W K hJ hK
        unfold encB
        gi_wp2
        exact hK _ _ (KeepsFrom.refl _ _) (KpT.refl _ _ _ _) hJ rfl
      case body =>
        rintro l pre x a' W hl ⟨r, hr⟩ ⟨A1, q, c1, hbn, hoi, hbw, hkp, hbel⟩ rfl hlt
        have hql := hoi.len
        simp at hql
        have hbl := S4.out.len
        have hWs : w4.heap.size + 4 ≤ W.heap.size := by have := hkp.1; omega
        have cn := hbn.cell
        have BN := Lib.hid hbn
        have BW := Lib.hid hbw
        have OI := Lib.hid hoi
        have KP := Lib.hid hkp
        have BE := Lib.hid hbel
        clear hbn hbw hoi hkp hbel hr
        obtain ⟨L, hL⟩ : ∃ L, pre.map (fun k => (bAt bs k).1) = L := ⟨_, rfl⟩
        obtain ⟨bb, hbb⟩ : ∃ bb, pre.all (fun k => (bAt bs k).2) = bb := ⟨_, rfl⟩
        have HL := Lib.hid hL
        have HBB := Lib.hid hbb
        rw [hL] at OI
        rw [hbb] at BW
        clear hL hbb
        gi_wp2_with (gi_at_builtin; refine wpListIn_append_own _ rfl _ _ 29 rfl (w4.heap.size + 4) 2 i0 (.int .i64 0) 1 8 Try.underlying29 HI.out HZ0.out HZ1.out HZ2.out rfl (by decide) (.slice A1 q c1) q (L.map (Value.int .i64)) (by simp [Act.eval]) (own_touch (S := fun _ => False) OI.out (Touch.of_below ((Below.refl W.heap.size W).alloc (Nat.le_refl _) _)) (fun _ _ h => h)) ⟨W.heap.size, 0, none⟩ 1 1 [.int .i64 (bAt bs x).1] (by simp [Act.eval]) rfl ?q1 ?q2 ?q3 ?q4 ?q5 ?_)
        case q1 =>
          intro j u hj
          match j, hj with
          | 0, hj => simp at hj; subst hj; simp [Addr.add]
        case q2 => intro u hu; simp at hu; subst hu; rfl
        case q3 => unfold maxLen; omega
        case q4 => omega
        case q5 => simp; omega
        intro v7 w7 hown7 hgrow7 _
        obtain ⟨A7, c7, rfl⟩ := own_slice hown7
        have PF := fun d => names_push (cn := w4.heap.size + 1) (cw := w4.heap.size + 1 + 1) (n₀ := w4.heap.size + 4) (b0 := w.heap.size) (by omega) (by omega) (by omega) (by omega) hWs BN.out BW.out OI.out hown7 hgrow7 d
        have q6 := (PF true).1.cell
        have f6 := (PF true).1.frozen
        have q7 := (PF true).2.1.cell
        have f7 := (PF true).2.1.frozen
        have PF := Lib.hid (fun d => (PF d).2.2)
        clear hown7 hgrow7 cn
        have hend : ∀ d, d = (bb && (bAt bs x).2) → KeepsFrom W0.heap.size W ((w7.setCell ⟨w4.heap.size + 1, 0, none⟩ (.slice A7 (q + 1) c7)).setCell ⟨w4.heap.size + 1 + 1, 0, none⟩ (.bool d)) ∧ KpT (w4.heap.size + 1) (w4.heap.size + 1 + 1) (w4.heap.size + 4) W ((w7.setCell ⟨w4.heap.size + 1, 0, none⟩ (.slice A7 (q + 1) c7)).setCell ⟨w4.heap.size + 1 + 1, 0, none⟩ (.bool d)) ∧
            ∃ A q' c, Boxed ((w7.setCell ⟨w4.heap.size + 1, 0, none⟩ (.slice A7 (q + 1) c7)).setCell ⟨w4.heap.size + 1 + 1, 0, none⟩ (.bool d)) (w4.heap.size + 1) 29 (.slice A q' c) ∧ OwnI ((w7.setCell ⟨w4.heap.size + 1, 0, none⟩ (.slice A7 (q + 1) c7)).setCell ⟨w4.heap.size + 1 + 1, 0, none⟩ (.bool d)) (w4.heap.size + 4) A q' c ((pre ++ [x]).map (fun k => (bAt bs k).1)) ∧ Boxed ((w7.setCell ⟨w4.heap.size + 1, 0, none⟩ (.slice A7 (q + 1) c7)).setCell ⟨w4.heap.size + 1 + 1, 0, none⟩ (.bool d)) (w4.heap.size + 1 + 1) 4 (.bool ((pre ++ [x]).all (fun k => (bAt bs k).2))) ∧
              KpT (w4.heap.size + 1) (w4.heap.size + 1 + 1) (w4.heap.size + 4) W0 ((w7.setCell ⟨w4.heap.size + 1, 0, none⟩ (.slice A7 (q + 1) c7)).setCell ⟨w4.heap.size + 1 + 1, 0, none⟩ (.bool d)) ∧ Below w.heap.size w ((w7.setCell ⟨w4.heap.size + 1, 0, none⟩ (.slice A7 (q + 1) c7)).setCell ⟨w4.heap.size + 1 + 1, 0, none⟩ (.bool d)) := fun d hd => by
          obtain ⟨p1, p2, p3, p4, p5, p6⟩ := PF.out d
          refine ⟨p1 _, p2, _, _, _, p3, by rw [List.map_append, HL.out]; exact p4, ?_, KP.out.trans p2, BE.out.trans (p6 (by omega))⟩
          have e : (pre ++ [x]).all (fun k => (bAt bs k).2) = d := by
            rw [List.all_append, HBB.out, hd]
            simp
          rw [e]
          exact p5
        have HE := Lib.hid hend
        clear hend
        obtain ⟨fl, hfl⟩ : ∃ fl, (bAt bs x).2 = fl := ⟨_, rfl⟩
        rw [hfl] at HE ⊢
        clear hfl
        cases bb with
        | true =>
          gi_wp2
          exact HE.out _ rfl
        | false =>
          gi_wp2
          exact HE.out _ rfl
      case done =>
        rintro D ys W hD rfl ⟨A1, q, c1, h1, h2, h3, h4, h5⟩ hK
        have c0 := h1.cell
        have c1 := h3.cell
        rw [kbs_range] at h2
        rw [allB_range] at c1
        have H2 := Lib.hid h2
        have H5 := Lib.hid h5
        clear h1 h2 h3 h4 h5
        gi_wp2
        gi_quiet (fail)
        have hKq : (W.drewN nq).heap[D]? = some (.deferred (some [])) := hK
        have O2 := Lib.hid ((H2.out.drewN nq).abide (grownBy_putObj' (W.drewN nq) D (.deferred none)) (fun r e => by cases e; exact ⟨_, hKq, rfl⟩))
        have B2 := Lib.hid ((below_drewN H5.out nq).trans (belowK_b (w := w) (Nat.le_refl _) (W.drewN nq) D _ (.deferred none) (by omega) hKq rfl rfl))
        gi_wp2
        refine ⟨by simp, .inl ⟨_, _, rfl, run_takeDeferred hKq, ?_⟩⟩
        exact ⟨_, results_tmp2 rfl _ _ _, _, _, _, kbs bs, allB bs, rfl, .inr ⟨⟨RT.out, by omega⟩, GO.out.rise, GO.out.done, GO.out.whole⟩, O2.out.base (by omega), B2.out⟩
      case stop =>
        rintro D cx pre W hD _ h
        exact h.elim
    · have hd : decide ((80 : Int) < (nr : Int)) = true := decide_eq_true (by omega)
      unfold SR.kv SR.vv
      gi_wp2_with fail
      exact ⟨_, results_tmp2 rfl _ _ _, none, 0, 0, [], false, rfl, .inl ⟨fun h => absurd h.2 (by omega), rfl, rfl⟩, OwnI.nil _ _, B3.out⟩
  · subst hR0
    subst hp0
    unfold SR.kv SR.vv
    simp only [SR0, List.length_nil]
    gi_wp2
    exact ⟨_, results_tmp2 rfl _ _ _, none, 0, 0, [], false, rfl, .inl ⟨fun h => hno h.1, rfl, rfl⟩, OwnI.nil _ _, B2.out.trans (((Below.refl _ _).alloc (Nat.le_refl _) _).mono s2)⟩
end Go.Proofs.Ytbepfgmonadadaa
