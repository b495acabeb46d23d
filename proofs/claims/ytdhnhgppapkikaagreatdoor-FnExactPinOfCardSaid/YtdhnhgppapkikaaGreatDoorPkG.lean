/- Several texts in one, in build order: SlPut, ReadM, ReadP, PathK, NodeP, Allows, NodeQ, ReadK, Named, NodesOf, NodesL. -/
import Derived.Test.YtdhnhgppapkikaaGreatDoorPkF
import Derived.StillTailTactics
import Derived.Deep.RegionHeld3
import Derived.Deep.AppendLies
-- SlPut: Putting a node into the list under a name.
namespace Go.Proofs.YtdhnhgppapkikaaGreatDoor
set_option maxRecDepth 100000
set_option linter.unusedVariables false
set_option linter.unusedSimpArgs false
open Go.RowKit

theorem kvs_not (ps : List (Int × NV)) (m : Int) (h : RiseI (kvs ps)) (ht : hitI (kvs ps) m = false) : m ∉ kvs ps := fun hm => by
  rw [(hitI_mem _ _ h).2 hm] at ht; cases ht
theorem own_box_ne {w : World} {lo p size n : Nat} {e t : TypeId} {cs : Array Value} {v : Value} {xs : List Value} (h : w.ownsRow lo e size v n xs) (hb : Box w p t cs) (hne : t ≠ e) : v.ownBlock ≠ some p := fun hv => by
  rcases h.2 with ⟨rfl, _⟩ | ⟨g, cap, cur, rfl, _, hg, _⟩
  · simp [Value.ownBlock] at hv
  · simp [Value.ownBlock] at hv
    subst hv
    rw [show w.heap[g]? = _ from hb] at hg
    cases hg
    exact hne rfl
theorem own_own_ne {w : World} {lo lo' size size' n n' : Nat} {e e' : TypeId} {v v' : Value} {xs xs' : List Value} (h : w.ownsRow lo e size v n xs) (h' : w.ownsRow lo' e' size' v' n' xs') (hne : e ≠ e') (g : Nat) (hv : v.ownBlock = some g) : v'.ownBlock ≠ some g := fun hv' => by
  rcases h.2 with ⟨rfl, _⟩ | ⟨g1, cap, cur, rfl, _, hg, _⟩
  · simp [Value.ownBlock] at hv
  · rcases h'.2 with ⟨rfl, _⟩ | ⟨g2, cap2, cur2, rfl, _, hg2, _⟩
    · simp [Value.ownBlock] at hv'
    · simp [Value.ownBlock] at hv hv'
      subst hv
      subst hv'
      rw [hg] at hg2
      cases hg2
      exact hne rfl
theorem SR.kvAt (R : SR) (n g : Nat) (h : (R.kv n).ownBlock = some g) : R.at_ g := by
  unfold SR.kv at h
  cases e : R.Ak with
  | none => rw [e] at h; simp [Value.ownBlock] at h
  | some a => rw [e] at h; exact .inl ⟨a, e, by simpa [Value.ownBlock] using h⟩
theorem SR.vvAt (R : SR) (n g : Nat) (h : (R.vv n).ownBlock = some g) : R.at_ g := by
  unfold SR.vv at h
  cases e : R.Av with
  | none => rw [e] at h; simp [Value.ownBlock] at h
  | some a => rw [e] at h; exact .inr ⟨a, e, by simpa [Value.ownBlock] using h⟩
/-- the rows behind a putting: those of before, or new ones. -/
def SR.from_ (R' R : SR) (B : Nat) : Prop := ∀ g, R'.at_ g → R.at_ g ∨ B ≤ g
theorem lowI_len (ps : List (Int × NV)) (m : Int) : lowI (kvs ps) m ≤ ps.length := by have := lowI_le (kvs ps) m; rw [kvs_len] at this; exact this
/-- what a putting leaves, once both rows are made. -/
theorem put_fin (p lo : Nat) (R : SR) (ps : List (Int × NV)) (m : Int) (x : NV) (w w5 w6 : World) (h : SLN w lo R ps) (hp : p < w.heap.size)
    (hn : NodeIn w w.heap.size x.v x.nd) (hu : ∀ g, x.use g → ¬ R.at_ g) (hup : ∀ g, x.use g → g ≠ p) (hpp : ∀ y ∈ ps, ∀ g, y.2.use g → g ≠ p) (hl : ps.length < 1000) (ht : hitI (kvs ps) m = false)
    (g4 c4 g6 c6 : Nat) (T5 : Touch (fun g => g = p ∨ R.at_ g) w w5)
    (P5 : Box w5 p 59 #[.slice (some ⟨g4, 0, none⟩) (ps.length + 1) c4, R.vv ps.length])
    (K5 : OwnI w5 lo (some ⟨g4, 0, none⟩) (ps.length + 1) c4 (kvs (insP ps (lowI (kvs ps) m) (m, x)))) (G4 : R.at_ g4 ∨ w.heap.size ≤ g4)
    (V5 : w5.ownsRow lo 134 4 (R.vv ps.length) ps.length (nvs ps))
    (t6 : Touch (fun g => (R.vv ps.length).ownBlock = some g) w5 w6)
    (o6 : w6.ownsRow lo 134 4 (.slice (some ⟨g6, 0, none⟩) (ps.length + 1) c6) (ps.length + 1) (nvs (insP ps (lowI (kvs ps) m) (m, x)))) (G6 : R.at_ g6 ∨ w.heap.size ≤ g6) :
    Box w6 p 59 #[.slice (some ⟨g4, 0, none⟩) (ps.length + 1) c4, R.vv ps.length] ∧
    ∃ R', Box (w6.setCell ⟨p, 1, none⟩ (.slice (some ⟨g6, 0, none⟩) (ps.length + 1) c6)) p 59 #[R'.kv (ps.length + 1), R'.vv (ps.length + 1)] ∧
      SLN (w6.setCell ⟨p, 1, none⟩ (.slice (some ⟨g6, 0, none⟩) (ps.length + 1) c6)) lo R' (insP ps (lowI (kvs ps) m) (m, x)) ∧ R'.from_ R w.heap.size ∧ Touch (fun g => g = p ∨ R.at_ g) w (w6.setCell ⟨p, 1, none⟩ (.slice (some ⟨g6, 0, none⟩) (ps.length + 1) c6)) := by
  have hvp : (R.vv ps.length).ownBlock ≠ some p := own_box_ne V5 P5 (by decide)
  have s5 := T5.size
  have P6 : Box w6 p 59 #[.slice (some ⟨g4, 0, none⟩) (ps.length + 1) c4, R.vv ps.length] := (t6.block p (by omega) (fun e => hvp e)).trans P5
  have K6 := K5.touch t6 (fun g hg e => own_own_ne K5 V5 (by decide) g hg e)
  have g4p : g4 ≠ p := fun e => own_box_ne K6 P6 (by decide) (by rw [e]; rfl)
  have g6p : g6 ≠ p := fun e => own_box_ne o6 P6 (by decide) (by rw [e]; rfl)
  obtain ⟨w7, hw7⟩ : ∃ w7, w6.setCell ⟨p, 1, none⟩ (.slice (some ⟨g6, 0, none⟩) (ps.length + 1) c6) = w7 := ⟨_, rfl⟩
  have t7 : Touch (fun g => g = p) w6 w7 := by rw [← hw7]; exact touch_set w6 p 1 _ rfl
  have P7 : Box w7 p 59 #[.slice (some ⟨g4, 0, none⟩) (ps.length + 1) c4, .slice (some ⟨g6, 0, none⟩) (ps.length + 1) c6] := by rw [← hw7]; exact P6.set_ 1 _
  have K7 := K6.touch t7 (fun g hg e => g4p (by have e2 : g4 = g := (by simpa [Value.ownBlock] using hg); omega))
  have O7 := own_touch o6 t7 (fun g hg e => g6p (by have e2 : g6 = g := (by simpa [Value.ownBlock] using hg); omega))
  rw [hw7]
  have T7 : Touch (fun g => g = p ∨ R.at_ g) w w7 := (T5.trans (t6.mono (fun k hk => .inr (R.vvAt _ _ hk)))).trans (t7.mono (fun k hk => .inl hk))
  have hfrom : (⟨some ⟨g4, 0, none⟩, c4, some ⟨g6, 0, none⟩, c6⟩ : SR).from_ R w.heap.size := fun g hg => by
    rcases hg with ⟨a, ha, e⟩ | ⟨a, ha, e⟩
    · cases ha; subst e; exact G4
    · cases ha; subst e; exact G6
  have hli := lowI_len ps m
  have hln : (insP ps (lowI (kvs ps) m) (m, x)).length = ps.length + 1 := insP_len _ _ _ hli
  have hnode : ∀ y ∈ insP ps (lowI (kvs ps) m) (m, x), NodeIn w w.heap.size y.2.v y.2.nd ∧ (∀ g, y.2.use g → ¬ (g = p ∨ R.at_ g)) := fun y hy => by
    rcases (insP_mem _ _ _ _).1 hy with rfl | hy
    · exact ⟨hn, fun g hg e => e.elim (hup g hg) (hu g hg)⟩
    · exact ⟨h.nodes y hy, fun g hg e => e.elim (hpp y hy g hg) (h.apart y hy g hg)⟩
  refine ⟨P6, ⟨some ⟨g4, 0, none⟩, c4, some ⟨g6, 0, none⟩, c6⟩, P7, ⟨by rw [hln]; exact K7, by rw [hln]; exact O7, fun y hy => ?_, fun y hy g hg e => ?_, ?_, by omega⟩, hfrom, T7⟩
  · exact (NV.touch (hnode y hy).1 T7 (Nat.le_refl _) (hnode y hy).2).more T7.size
  · rcases hfrom g e with e | e
    · exact (hnode y hy).2 g hg (.inr e)
    · have := NV.use_lt (hnode y hy).1 g hg
      omega
  · have hm := kvs_not ps m h.rise ht
    have e : kvs (insP ps (lowI (kvs ps) m) (m, x)) = insI (kvs ps) m := by rw [← insP_low _ _ hm]; exact insP_map _ _ _ _
    rw [e]
    exact insI_rise _ _ h.rise hm
set_option maxHeartbeats 2000000 in
theorem put_any (p lo : Nat) (R : SR) (ps : List (Int × NV)) (m : Int) (x : NV) (w : World) (hx : Box w p 59 #[R.kv ps.length, R.vv ps.length]) (h : SLN w lo R ps) (hlo : lo ≤ w.heap.size)
    (hn : NodeIn w w.heap.size x.v x.nd) (hu : ∀ g, x.use g → ¬ R.at_ g) (hup : ∀ g, x.use g → g ≠ p) (hpp : ∀ y ∈ ps, ∀ g, y.2.use g → g ≠ p) (hl : ps.length < 1000) :
    Calls Tryz.prog 90 #[.pointer (some ⟨p, 0, none⟩), .int .i64 m, x.v] w fun e w' =>
      (hitI (kvs ps) m = true ∧ e = .returned (.bool false) ∧ Below w.heap.size w w') ∨
      (hitI (kvs ps) m = false ∧ e = .returned (.bool true) ∧ ∃ R', Box w' p 59 #[R'.kv (ps.length + 1), R'.vv (ps.length + 1)] ∧ SLN w' lo R' (insP ps (lowI (kvs ps) m) (m, x)) ∧ R'.from_ R w.heap.size ∧ Touch (fun g => g = p ∨ R.at_ g) w w') := by
  have mixed : Tryz.prog.follows .mixedOrders = true := by kernel_rfl
  have hlen := h.len
  obtain ⟨Ap, np, cp, Ak, nk, ck, nd⟩ := x
  obtain ⟨w1, hw1⟩ : ∃ w1, w.alloc (.cells #[.int .i64 nd.kind, .slice Ap np cp, .slice Ak nk ck, .string nd.val] 134) = w1 := ⟨_, rfl⟩
  have x1 : Box w1 w.heap.size _ _ := hw1 ▸ heap_alloc_new _ _
  have s1 : w1.heap.size = w.heap.size + 1 := hw1 ▸ by simp
  have b1 : Below w.heap.size w w1 := hw1 ▸ (Below.refl _ _).alloc (Nat.le_refl _) _
  have hp := hx.lt
  have X1 := Lib.hid x1
  have B1 := Lib.hid b1
  have P1 := Lib.hid (hx.below b1 hp)
  have HS := Lib.hid (h.below b1)
  have H0 := Lib.hid h
  have N0 := Lib.hid hn
  have HN := Lib.hid (hn.below b1)
  have HRL := Lib.hid (fun g hg => (h.lt g hg).2)
  clear x1 b1 hx h hn
  have q0 := P1.out.cell 0
  have q1 := P1.out.cell 1
  unfold SR.kv at q0
  unfold SR.vv at q1
  simp at q0 q1
  unfold NV.v
  go_enter Tryz.func90, Tryz.ntmps90
  go_wp2_with fail
  refine (search_any R.Ak ps.length R.ck (kvs ps) m w1.heap.size w1 (by omega) HS.out.keys.ints HS.out.rise).mono ?_
  rintro e w2 ⟨rfl, nq, hq⟩
  have b2 : Below w1.heap.size w1 w2 := by rw [hq]; exact below_drewN (Below.refl _ _) nq
  have X2 := Lib.hid (X1.out.below b2 (by omega))
  have P2 := Lib.hid (P1.out.below b2 (by omega))
  have S2 := Lib.hid (HS.out.below b2)
  have N2 := Lib.hid (HN.out.below (b2.mono (by omega)))
  have B2 := Lib.hid (B1.out.trans (b2.mono (by omega)))
  have hs2 : w2.heap.size = w.heap.size + 1 := by rw [hq]; simpa using s1
  clear hq b2 hw1 q0 q1
  have q0 := P2.out.cell 0
  have q1 := P2.out.cell 1
  have p0 := P2.out.free
  unfold SR.kv at q0
  unfold SR.vv at q1
  simp at q0 q1
  obtain ⟨ht, hht⟩ : ∃ ht, hitI (kvs ps) m = ht := ⟨_, rfl⟩
  have HT := Lib.hid hht
  rw [hht]
  clear hht
  obtain ⟨i, hi⟩ : ∃ i, lowI (kvs ps) m = i := ⟨_, rfl⟩
  have hil : i ≤ ps.length := by rw [← hi]; exact lowI_len ps m
  have HI := Lib.hid hi
  rw [hi]
  clear hi
  cases ht with
  | true =>
    go_wp2
    go_ret
    exact .inl ⟨HT.out, rfl, B2.out⟩
  | false =>
    -- the key's own block
    obtain ⟨w3, hw3⟩ : ∃ w3, w2.alloc (.cells #[.int .i64 m] 2) = w3 := ⟨_, rfl⟩
    have b3 : Below w2.heap.size w2 w3 := hw3 ▸ (Below.refl w2.heap.size w2).alloc (Nat.le_refl _) _
    have y3 : Box w3 w2.heap.size 2 #[.int .i64 m] := hw3 ▸ heap_alloc_new _ _
    have s3 : w3.heap.size = w.heap.size + 2 := by rw [← hw3]; simp [hs2]
    rw [hs2] at y3
    have X3 := Lib.hid (X2.out.below b3 (by omega))
    have P3 := Lib.hid (P2.out.below b3 (by omega))
    have S3 := Lib.hid (S2.out.below b3)
    have N3 := Lib.hid (N2.out.below (b3.mono (by omega)))
    have B3 := Lib.hid (B2.out.trans (b3.mono (by omega)))
    have Y3 := Lib.hid y3
    clear b3 y3
    go_wp2_with fail
    refine (insI_any lo ps.length R.ck i (w.heap.size + 1) _ R.Ak ((kvs ps).map (Value.int .i64)) [.int .i64 m] w3 S3.out.keys (by omega) hil (by omega) Y3.out rfl (by intro u hu; simp at hu; subst hu; rfl) (kvs_one _) (fun e => by have := (S2.out.keys.lt _ e).2; omega)).mono ?_
    rintro e w4 ⟨g4, c4, rfl, o4, gr4, at4⟩
    rw [show ([.int .i64 m] : List Value) = [.int .i64 ((m, (⟨Ap, np, cp, Ak, nk, ck, nd⟩ : NV)) : Int × NV).1] from rfl, kvs_put] at o4
    have gk4 := gr4
    have gr4 : Touch (fun g => R.at_ g) w3 w4 := (Touch.of_grown gr4).mono (fun k hk => R.kvAt _ _ hk.symm)
    have kp : (R.kv ps.length).ownBlock ≠ some p := own_box_ne S3.out.keys P3.out (by decide)
    have np_ : ¬ R.at_ p := fun h => by
      rcases h with ⟨a, ha, e⟩ | ⟨a, ha, e⟩
      · exact kp (by unfold SR.kv; rw [ha, ← e]; rfl)
      · exact own_box_ne S3.out.vals P3.out (by decide) (by rw [ha, ← e]; rfl)
    have s4 : w3.heap.size ≤ w4.heap.size := gr4.size
    have P4 := Lib.hid (show Box w4 p _ _ from (gr4.block p (by omega) np_).trans P3.out)
    have X4 := Lib.hid (show Box w4 w.heap.size _ _ from (gr4.block _ (by omega) (fun h => by have := HRL.out _ h; omega)).trans X3.out)
    have V4 := Lib.hid (own_touch S3.out.vals (S := fun g => (R.kv ps.length).ownBlock = some g) ((Touch.of_grown (show w3.grownBy w4 (R.kv ps.length).ownBlock from gk4)).mono (fun k hk => hk.symm)) (fun g hg hk => own_own_ne S3.out.keys S3.out.vals (by decide) g hk hg))
    have V4p : (R.vv ps.length).ownBlock ≠ some p := own_box_ne V4.out P4.out (by decide)
    have K4 := Lib.hid (show OwnI w4 lo (some ⟨g4, 0, none⟩) (ps.length + 1) c4 _ from o4)
    have g4p : g4 ≠ p := fun e => own_box_ne o4 P4.out (by decide) (by rw [e]; rfl)
    have G4 := Lib.hid at4
    clear o4 gk4 at4 q0 q1 p0
    have f4 := P4.out.free
    have q4 := P4.out.cell 0
    simp at q4
    obtain ⟨w5, hw5⟩ : ∃ w5, w4.setCell ⟨p, 0, none⟩ (.slice (some ⟨g4, 0, none⟩) (ps.length + 1) c4) = w5 := ⟨_, rfl⟩
    have t5 : Touch (fun g => g = p) w4 w5 := by rw [← hw5]; exact touch_set w4 p 0 _ rfl
    have s5 : w5.heap.size = w4.heap.size := by rw [← hw5]; simp
    have P5 := Lib.hid (show Box w5 p _ #[.slice (some ⟨g4, 0, none⟩) (ps.length + 1) c4, R.vv ps.length] from by rw [← hw5]; exact P4.out.set_ 0 _)
    have X5 := Lib.hid (show Box w5 w.heap.size _ _ from (t5.block _ (by omega) (by omega)).trans X4.out)
    have V5 := Lib.hid (own_touch V4.out t5 (fun g hg hk => V4p (by rw [← hk]; exact hg)))
    have K5 := Lib.hid (K4.out.touch t5 (fun g hg hk => g4p (by have e : g4 = g := (by simpa [Value.ownBlock] using hg); omega)))
    go_wp2_with fail
    clear f4 q4
    have q1 := P5.out.cell 1
    have f1 := P5.out.free
    have x0 := X5.out.cell 0
    have x1 := X5.out.cell 1
    have x2 := X5.out.cell 2
    have x3 := X5.out.cell 3
    unfold SR.vv at q1
    simp at q1 x0 x1 x2 x3
    have V6 := Lib.hid (show (w5.alloc (.cells #[.int .i64 nd.kind, .slice Ap np cp, .slice Ak nk ck, .string nd.val] 134)).drew.ownsRow lo 134 4 (.slice R.Av ps.length R.cv) ps.length (nvs ps) from V5.out.alloc _)
    have Y6 := Lib.hid (show (w5.alloc (.cells #[.int .i64 nd.kind, .slice Ap np cp, .slice Ak nk ck, .string nd.val] 134)).drew.heap[w4.heap.size]? = some (.cells ([.int .i64 nd.kind, .slice Ap np cp, .slice Ak nk ck, .string nd.val] : List Value).toArray 134 (0, 0)) from by rw [← s5]; exact heap_alloc_new w5 _)
    have Z6 := Lib.hid (show (w5.alloc (.cells #[.int .i64 nd.kind, .slice Ap np cp, .slice Ak nk ck, .string nd.val] 134)).drew.heap.size = w4.heap.size + 1 from by rw [← s5]; simp)
    have VB := Lib.hid (fun g hg => (V5.out.lt g hg).2)
    have T5 := Lib.hid (show Touch (fun g => g = p ∨ R.at_ g) w w5 from ((Touch.of_below B3.out).trans (gr4.mono (fun k hk => .inr hk))).trans (t5.mono (fun k hk => .inl hk)))
    clear gr4 t5
    have hp4 : p < w4.heap.size := by omega
    have hp5 : p < w5.heap.size := by omega
    have hpn : ¬ (p = w4.heap.size) := by omega
    go_region_law (first
      | (go_simp
         refine (insN_any lo ps.length R.cv i w4.heap.size _ R.Av (nvs ps) [.int .i64 nd.kind, .slice Ap np cp, .slice Ak nk ck, .string nd.val] _ V6.out (by rw [Z6.out]; omega) hil (by omega) Y6.out rfl (fun u hu => (⟨Ap, np, cp, Ak, nk, ck, nd⟩ : NV).one u hu) (nvs_one _) (fun e => by have := VB.out _ e; omega)).mono ?_
         rintro e w6 ⟨g6, c6, rfl, o6, gr6, at6⟩
         rw [show ([.int .i64 nd.kind, .slice Ap np cp, .slice Ak nk ck, .string nd.val] : List Value) = ((m, (⟨Ap, np, cp, Ak, nk, ck, nd⟩ : NV)) : Int × NV).2.cells from rfl, nvs_put, ← HI.out] at o6
         have PF := put_fin p lo R ps m ⟨Ap, np, cp, Ak, nk, ck, nd⟩ w w5 w6 H0.out hp N0.out hu hup hpp hl HT.out g4 c4 g6 c6 T5.out P5.out (by rw [HI.out]; exact K5.out) (G4.out.elim (fun e => .inl (R.kvAt _ _ e)) (fun e => .inr (by omega))) V5.out
           ((Touch.of_below (below_drewN (((Below.refl w5.heap.size w5).alloc (Nat.le_refl _) _)) 1)).trans ((Touch.of_grown gr6).mono (fun k hk => hk.symm))) o6 (at6.elim (fun e => .inl (R.vvAt _ _ e)) (fun e => .inr (by rw [Z6.out] at e; omega)))
         have q6 := PF.1.cell 1
         have f6 := PF.1.free 1
         simp at q6))
    all_goals
      have PF := Lib.hid PF.2
      clear q1 f1 x0 x1 x2 x3 q6 f6 o6 gr6 at6
      go_wp2
      go_ret
      exact .inr ⟨HT.out, rfl, PF.out⟩
end Go.Proofs.YtdhnhgppapkikaaGreatDoor

-- ReadM: Plain facts on the reading of a node as the program does it: number by number, until there are too few.
namespace Go.Proofs.YtdhnhgppapkikaaGreatDoor
set_option maxRecDepth 20000
open Go.RowKit

/-- the next number, of what is left; none: there were too few. -/
def rNum : Option (List Int) → Int × Option (List Int)
  | some (y :: r) => (y, some r)
  | _ => (0, none)
def rByt (c : Nat) : Option (List Int) → List Int × Option (List Int)
  | some ys => if c ≤ ys.length then (ys.take c, some (ys.drop c)) else ([], none)
  | none => ([], none)
def nm8 (zs : List Int) : Int := if zs.length = 8 ∧ zs[7]?.getD 0 ≤ 127 then leVal zs else -1
def rKid (st : Option (List Int)) : (Int × Int) × Option (List Int) := (((rNum st).1, nm8 (rByt 8 (rNum st).2).1), (rByt 8 (rNum st).2).2)
def rKids : Nat → Option (List Int) → List (Int × Int) × Option (List Int)
  | 0, st => ([], st)
  | q + 1, st => ((rKids q st).1 ++ [(rKid (rKids q st).2).1], (rKid (rKids q st).2).2)
def rPart (st : Option (List Int)) : List Int × Option (List Int) := rByt (rNum st).1.toNat (rNum st).2
def rAll (st : Option (List Int)) : List (Int × Int) × Option (List Int) := rKids (rNum st).1.toNat (rNum st).2
def rNode (st : Option (List Int)) : MNode × Option (List Int) :=
  (⟨(rNum st).1, (rPart (rNum st).2).1, (rAll (rPart (rPart (rNum st).2).2).2).1, strOfNums (rPart (rPart (rNum st).2).2).1⟩, (rAll (rPart (rPart (rNum st).2).2).2).2)

/-- every number that is left is a byte. -/
def Bs (st : Option (List Int)) : Prop := ∀ ys, st = some ys → ∀ z ∈ ys, 0 ≤ z ∧ z ≤ 255
theorem rNum_bs {st} (h : Bs st) : Bs (rNum st).2 ∧ 0 ≤ (rNum st).1 ∧ (rNum st).1 ≤ 255 := by
  rcases st with _ | _ | ⟨y, r⟩
  · exact ⟨fun ys e => (by cases e), by decide, by decide⟩
  · exact ⟨fun ys e => (by cases e), by decide, by decide⟩
  · refine ⟨fun ys e z hz => ?_, h _ rfl y (by simp)⟩
    cases e
    exact h _ rfl z (by simp [hz])
theorem rByt_bs {st} (c : Nat) (h : Bs st) : Bs (rByt c st).2 ∧ ∀ z ∈ (rByt c st).1, 0 ≤ z ∧ z ≤ 255 := by
  rcases st with _ | ys
  · exact ⟨fun ys e => (by cases e), by simp [rByt]⟩
  · unfold rByt
    simp only
    split
    · refine ⟨fun r e z hz => ?_, fun z hz => h _ rfl z (List.mem_of_mem_take hz)⟩
      cases e
      exact h _ rfl z (List.mem_of_mem_drop hz)
    · exact ⟨fun ys e => (by cases e), by simp⟩
theorem rPart_bs {st} (h : Bs st) : Bs (rPart st).2 ∧ ∀ z ∈ (rPart st).1, 0 ≤ z ∧ z ≤ 255 := rByt_bs _ (rNum_bs h).1
theorem rKid_bs {st} (h : Bs st) : Bs (rKid st).2 := (rByt_bs 8 (rNum_bs h).1).1
theorem rKids_bs {st} (q : Nat) (h : Bs st) : Bs (rKids q st).2 := by
  induction q with
  | zero => exact h
  | succ q ih => exact rKid_bs ih
theorem rByt_len {st} (c : Nat) : (rByt c st).1.length ≤ c := by
  rcases st with _ | ys
  · simp [rByt]
  · unfold rByt
    simp only
    split
    · simp; omega
    · simp
theorem rPart_len {st} (h : Bs st) : (rPart st).1.length ≤ 255 := by
  have h1 := rByt_len (st := (rNum st).2) (rNum st).1.toNat
  have h2 := (rNum_bs h).2
  unfold rPart
  omega
theorem rKids_len (q : Nat) {st} : (rKids q st).1.length = q := by
  induction q with
  | zero => rfl
  | succ q ih => simp [rKids, ih]

/-! what was read stands there -/
theorem rNum_back {st a r} (h : rNum st = (a, some r)) : st = some (a :: r) := by
  rcases st with _ | _ | ⟨y, q⟩
  · cases h
  · cases h
  · cases h; rfl
theorem rByt_back {st c xs r} (h : rByt c st = (xs, some r)) : st = some (xs ++ r) ∧ xs.length = c := by
  rcases st with _ | ys
  · cases h
  · unfold rByt at h
    simp only at h
    split at h
    · cases h
      exact ⟨by rw [List.take_append_drop], by simp; omega⟩
    · cases h
theorem rPart_back {st xs r} (hb : Bs st) (h : rPart st = (xs, some r)) : st = some ((xs.length : Int) :: (xs ++ r)) := by
  obtain ⟨h1, h2⟩ := rByt_back h
  have hp := (rNum_bs hb).2
  rw [rNum_back (st := st) (a := (rNum st).1) (r := xs ++ r) (Prod.ext rfl h1)]
  rw [h2]
  congr 2
  omega
theorem rKid_back {st k r} (hb : Bs st) (h : rKid st = (k, some r)) (hk : 1 ≤ k.2) : st = some (kidBytes k ++ r) ∧ k.2 ≤ 9223372036854775807 := by
  have e1 : k = ((rNum st).1, nm8 (rByt 8 (rNum st).2).1) := (congrArg Prod.fst h).symm
  have e2 : (rByt 8 (rNum st).2).2 = some r := congrArg Prod.snd h
  obtain ⟨h1, h2⟩ := rByt_back (st := (rNum st).2) (c := 8) (xs := (rByt 8 (rNum st).2).1) (r := r) (Prod.ext rfl e2)
  have hr := (rByt_bs 8 (rNum_bs hb).1).2
  have hn := (rNum_bs hb).2
  generalize (rByt 8 (rNum st).2).1 = xs at h1 h2 hr e1
  have h3 := rNum_back (st := st) (a := (rNum st).1) (r := xs ++ r) (Prod.ext rfl h1)
  subst e1
  simp only at hk ⊢
  unfold nm8 at hk ⊢
  split at hk
  · rename_i hc
    rw [if_pos hc]
    refine ⟨?_, (leW_yes xs hr h2 hc.2).2.2⟩
    refine h3.trans ?_
    unfold kidBytes
    simp only
    rw [bytes_of_back xs hr h2 hc.2, Int.emod_eq_of_lt hn.1 (by omega)]
    rfl
  · omega
theorem rKids_back {st r} (q : Nat) (hb : Bs st) (h : (rKids q st).2 = some r) (hk : ∀ k ∈ (rKids q st).1, 1 ≤ k.2) : st = some ((rKids q st).1.flatMap kidBytes ++ r) ∧ ∀ k ∈ (rKids q st).1, k.2 ≤ 9223372036854775807 := by
  induction q generalizing r with
  | zero => exact ⟨by simpa [rKids] using h, by simp [rKids]⟩
  | succ q ih =>
    have h0 : (rKid (rKids q st).2).2 = some r := h
    obtain ⟨h1, h2⟩ := rKid_back (rKids_bs q hb) (k := (rKid (rKids q st).2).1) (r := r) (Prod.ext rfl h0) (hk _ (by simp [rKids]))
    obtain ⟨h3, h4⟩ := ih h1 (fun k hm => hk k (by simp [rKids, hm]))
    refine ⟨?_, fun k hm => ?_⟩
    · conv => lhs; rw [h3]
      simp [rKids]
    · simp only [rKids, List.mem_append, List.mem_singleton] at hm
      rcases hm with hm | rfl
      · exact h4 k hm
      · exact h2
theorem rNode_back {bs} (hb : Bs (some bs)) (h : (rNode (some bs)).2 = some []) (ok : nodeOk (rNode (some bs)).1 = true) : NodeRead bs (rNode (some bs)).1 true := by
  have b1 := (rNum_bs hb)
  have b2 := rPart_bs b1.1
  have b3 := rPart_bs b2.1
  have b4 := rNum_bs b3.1
  have hks := (nodeOk_parts _ ok).2.1
  have hk1 : ∀ k ∈ (rNode (some bs)).1.kids, 1 ≤ k.2 := fun k hk => (kidsOk_mem _ hks k hk).2
  obtain ⟨k1, k2⟩ := rKids_back (r := []) (rNum (rPart (rPart (rNum (some bs)).2).2).2).1.toNat b4.1 h hk1
  have kl := rKids_len (rNum (rPart (rPart (rNum (some bs)).2).2).2).1.toNat (st := (rNum (rPart (rPart (rNum (some bs)).2).2).2).2)
  refine .inl ⟨rfl, ok, k2, ?_⟩
  unfold nodeBytes
  rw [if_pos ok]
  unfold rNode rawBytes
  simp only
  have e3 := rNum_back (st := (rPart (rPart (rNum (some bs)).2).2).2) (Prod.ext rfl k1)
  have e2 := rPart_back (st := (rPart (rNum (some bs)).2).2) b2.1 (Prod.ext rfl e3)
  have e1 := rPart_back (st := (rNum (some bs)).2) b1.1 (Prod.ext rfl e2)
  have e0 := rNum_back (st := some bs) (Prod.ext rfl e1)
  have l1 := rPart_len b1.1
  have l2 := rPart_len b2.1
  have hm : (rPart (rNum (some bs)).2).1.map (· % 256) = (rPart (rNum (some bs)).2).1 := by
    conv => rhs; rw [← List.map_id (rPart (rNum (some bs)).2).1]
    apply List.map_congr_left
    intro z hz
    have := b2.2 z hz
    simp; omega
  injection e0 with e0
  rw [hm, sb_str _ b3.2, strOfNums_size]
  have d0 : (rNum (some bs)).1 % 256 = (rNum (some bs)).1 := by omega
  have d1 : ((rPart (rNum (some bs)).2).1.length : Int) % 256 = (rPart (rNum (some bs)).2).1.length := by omega
  have d2 : ((rPart (rPart (rNum (some bs)).2).2).1.length : Int) % 256 = (rPart (rPart (rNum (some bs)).2).2).1.length := by omega
  have d3 : ((rAll (rPart (rPart (rNum (some bs)).2).2).2).1.length : Int) % 256 = (rNum (rPart (rPart (rNum (some bs)).2).2).2).1 := by
    unfold rAll
    rw [kl]; omega
  rw [d0, d1, d2, d3]
  conv => rhs; rw [e0]
  simp [rAll]

/-! what is written is read -/
theorem rByt_of (xs r : List Int) : rByt xs.length (some (xs ++ r)) = (xs, some r) := by simp [rByt]
theorem rPart_of (xs r : List Int) : rPart (some ((xs.length : Int) :: (xs ++ r))) = (xs, some r) := by
  show rByt ((xs.length : Int)).toNat (some (xs ++ r)) = _
  rw [Int.toNat_natCast]; exact rByt_of xs r
theorem rKid_of (k : Int × Int) (r : List Int) (h0 : 0 ≤ k.1 ∧ k.1 ≤ 15) (h1 : 1 ≤ k.2 ∧ k.2 ≤ 9223372036854775807) : rKid (some (kidBytes k ++ r)) = (k, some r) := by
  obtain ⟨hb1, hb2, hb3⟩ := back_of_bytes k.2 (by omega)
  have e : rByt 8 (some (nameBytes k.2 ++ r)) = (nameBytes k.2, some r) := by
    have := rByt_of (nameBytes k.2) r
    rwa [hb2] at this
  have en : rNum (some (kidBytes k ++ r)) = (k.1, some (nameBytes k.2 ++ r)) := by
    unfold kidBytes
    show (k.1 % 256, some (nameBytes k.2 ++ r)) = _
    rw [Int.emod_eq_of_lt h0.1 (by omega)]
  unfold rKid
  rw [en]
  simp only
  rw [e]
  simp only
  have : nm8 (nameBytes k.2) = k.2 := by
    unfold nm8
    rw [if_pos ⟨hb2, hb3⟩]; exact hb1
  rw [this]
theorem rKids_of (ks : List (Int × Int)) (r : List Int) (h : ∀ k ∈ ks, (0 ≤ k.1 ∧ k.1 ≤ 15) ∧ (1 ≤ k.2 ∧ k.2 ≤ 9223372036854775807)) (m : Nat) (hm : m ≤ ks.length) :
    rKids m (some (ks.flatMap kidBytes ++ r)) = (ks.take m, some ((ks.drop m).flatMap kidBytes ++ r)) := by
  induction m with
  | zero => simp [rKids]
  | succ m ih =>
    have hlt : m < ks.length := by omega
    unfold rKids
    rw [ih (by omega)]
    simp only
    rw [List.drop_eq_getElem_cons hlt, List.flatMap_cons, List.append_assoc]
    have hx := h ks[m] (List.getElem_mem hlt)
    rw [rKid_of ks[m] _ hx.1 hx.2, List.take_succ_eq_append_getElem hlt]
theorem rNode_of (nd : MNode) (bs : List Int) (h : nodeOk nd = true) (hw : NodeWf nd) (he : nodeBytes nd = bs) : rNode (some bs) = (nd, some []) := by
  have pa := (isPath_iff _).1 (nodeOk_parts nd h).1
  have ka := nodeOk_kind nd h
  have va := nodeOk_val nd h
  have ca := (nodeOk_parts nd h).2.1
  have na := kidsOk_len _ ca
  have hsb := sb_len nd.val
  have hbs : bs = nd.kind :: (nd.path.length : Int) :: (nd.path ++ (((sb nd.val).length : Int) :: (sb nd.val ++ ((nd.kids.length : Int) :: (nd.kids.flatMap kidBytes ++ []))))) := by
    rw [← he]
    unfold nodeBytes
    rw [if_pos h]
    unfold rawBytes
    rw [map_mod nd.path pa.2]
    have d0 : nd.kind % 256 = nd.kind := by omega
    have d1 : (nd.path.length : Int) % 256 = nd.path.length := by omega
    have d2 : (nd.val.size : Int) % 256 = nd.val.size := by omega
    have d3 : (nd.kids.length : Int) % 256 = nd.kids.length := by omega
    rw [d0, d1, d2, d3, hsb]
    simp
  have e0 : rNum (some bs) = (nd.kind, some ((nd.path.length : Int) :: (nd.path ++ (((sb nd.val).length : Int) :: (sb nd.val ++ ((nd.kids.length : Int) :: (nd.kids.flatMap kidBytes ++ []))))))) := by rw [hbs]; rfl
  have e1 := rPart_of nd.path (((sb nd.val).length : Int) :: (sb nd.val ++ ((nd.kids.length : Int) :: (nd.kids.flatMap kidBytes ++ []))))
  have e2 := rPart_of (sb nd.val) ((nd.kids.length : Int) :: (nd.kids.flatMap kidBytes ++ []))
  have e3 : rAll (some ((nd.kids.length : Int) :: (nd.kids.flatMap kidBytes ++ []))) = (nd.kids, some []) := by
    show rKids ((nd.kids.length : Int)).toNat (some (nd.kids.flatMap kidBytes ++ [])) = _
    rw [Int.toNat_natCast, rKids_of nd.kids [] (fun k hk => ⟨(kidsOk_mem _ ca k hk).1, (kidsOk_mem _ ca k hk).2, hw k hk⟩) _ (Nat.le_refl _)]
    simp
  unfold rNode
  rw [e0]
  simp only
  rw [e1]
  simp only
  rw [e2]
  simp only
  rw [e3, str_sb]
theorem rNode_none {bs} (h : ¬ ((rNode (some bs)).2 = some [] ∧ nodeOk (rNode (some bs)).1 = true)) : NodeRead bs node0 false :=
  .inr ⟨rfl, rfl, fun nd h1 h2 h3 => h (by rw [rNode_of nd bs h1 h2 h3]; exact ⟨rfl, h1⟩)⟩
end Go.Proofs.YtdhnhgppapkikaaGreatDoor

-- ReadP: The program's reader of the bytes of a node.
namespace Go.Proofs.YtdhnhgppapkikaaGreatDoor
set_option maxRecDepth 20000
set_option linter.unusedSimpArgs false
set_option linter.unusedVariables false
open Go.RowKit

/-- the reader in block g: what is left, below block B; none: it was short. -/
def Rd (w : World) (B g : Nat) (st : Option (List Int)) : Prop :=
  ∃ A n c short, Box w g 207 #[.slice A n c, .bool short] ∧ n ≤ c ∧ n ≤ 1048576 ∧ (A = none → c = 0) ∧ Byts w B A n (st.getD []) ∧ short = st.isNone ∧ (st = none → A = none)
theorem Rd.lt {w : World} {B g : Nat} {st} (h : Rd w B g st) : g < w.heap.size := by
  obtain ⟨A, n, c, s, hx, _⟩ := h
  exact hx.lt
theorem Rd.touch {w w' : World} {B g : Nat} {st} {S : Nat → Prop} (h : Rd w B g st) (t : Touch S w w') (hB : B ≤ g) (hs : ∀ k, k ≤ g → ¬ S k) : Rd w' B g st := by
  have hl := h.lt
  obtain ⟨A, n, c, s, hx, h1, h2, h3, h4, h5⟩ := h
  exact ⟨A, n, c, s, (t.block g hl (hs g (Nat.le_refl _))).trans hx, h1, h2, h3, h4.below (t.below (by omega) (fun k hk => hs k (by omega))), h5⟩
theorem Rd.below {w w' : World} {B g : Nat} {st} (h : Rd w B g st) (b : Below w.heap.size w w') (hB : B ≤ g) : Rd w' B g st :=
  h.touch (Touch.of_below (S := fun _ => False) b) hB (fun _ _ h => h)
theorem Rd.bs {w : World} {B g : Nat} {st} (h : Rd w B g st) : Bs st := by
  obtain ⟨A, n, c, s, _, _, _, _, h4, _⟩ := h
  intro ys e
  subst e
  exact h4.2.1

theorem Byts.take_ {w : World} {B n k : Nat} {A : Option Addr} {ys : List Int} (h : Byts w B A n ys) (hk : k ≤ n) : Byts w B A k (ys.take k) := by
  refine ⟨by have := h.1; simp; omega, fun z hz => h.2.1 z (List.mem_of_mem_take hz), fun hp => ?_⟩
  obtain ⟨b, off, e, hb, hc⟩ := h.2.2 (by omega)
  refine ⟨b, off, e, hb, fun i hi => ?_⟩
  rw [hc i (by omega)]
  simp [hi]
theorem Byts.drop_ {w : World} {B n k : Nat} {A : Option Addr} {ys : List Int} (h : Byts w B A n ys) (hk : k ≤ n) : Byts w B (A.map fun x => x.add k) (n - k) (ys.drop k) := by
  refine ⟨by have := h.1; simp; omega, fun z hz => h.2.1 z (List.mem_of_mem_drop hz), fun hp => ?_⟩
  obtain ⟨b, off, rfl, hb, hc⟩ := h.2.2 (by omega)
  refine ⟨b, off + k, by simp [Addr.add], hb, fun i hi => ?_⟩
  have := hc (k + i) (by omega)
  rw [Nat.add_assoc, this]
  simp
theorem rByt_ok {st} (cnt : Nat) (h : cnt ≤ (st.getD ([] : List Int)).length) : (rByt cnt st).1 = (st.getD []).take cnt ∧ (rByt cnt st).2.getD [] = (st.getD []).drop cnt ∧ (rByt cnt st).2.isNone = st.isNone := by
  rcases st with _ | ys
  · simp [rByt]
  · have h' : cnt ≤ ys.length := h
    simp [rByt, h']
theorem rByt_few {st} (cnt : Nat) (h : (st.getD ([] : List Int)).length < cnt) : rByt cnt st = ([], none) := by
  rcases st with _ | ys
  · simp [rByt]
  · have h' : ¬ cnt ≤ ys.length := by simpa using h
    simp [rByt, h']
theorem none_of_isNone {st : Option (List Int)} (h : st.isNone = true) : st = none := by cases st <;> simp_all

theorem rbytes_any (g cnt B : Nat) (st : Option (List Int)) (w : World) (hB : B ≤ g) (hcn : cnt ≤ 1048576) (h : Rd w B g st) :
    Calls Tryz.prog 144 #[.pointer (some ⟨g, 0, none⟩), .int .i64 cnt] w fun e w' => ∃ A n c, e = .returned (.slice A n c) ∧ n ≤ c ∧ Byts w' B A n (rByt cnt st).1 ∧ Rd w' B g (rByt cnt st).2 ∧ Touch (fun k => k = g) w w' ∧ w'.heap.size = w.heap.size := by
  have hg := h.lt
  obtain ⟨A, n, c, short, hx, hc, hn, hA, hb, hs, hst⟩ := h
  have q0 := hx.cell 0
  have q1 := hx.cell 1
  have f0 := hx.free 0
  have f1 := hx.free 1
  simp at q0 q1
  have hlen := hb.1
  have HX := Lib.hid hx
  have HB := Lib.hid hb
  have HA := Lib.hid hA
  have HS := Lib.hid hs
  have HST := Lib.hid hst
  clear hx hb hA hs hst
  by_cases hlt : n < cnt
  · have hd : decide ((n : Int) < (cnt : Int)) = true := decide_eq_true (by omega)
    have hf := Lib.hid (rByt_few (st := st) cnt (by omega))
    go_enter Tryz.func144, Tryz.ntmps144
    go_wp2
    go_ret
    rw [hf.out]
    have hx2 := (HX.out.set_ 0 (.slice none 0 0)).set_ 1 (.bool true)
    exact ⟨none, 0, 0, rfl, Nat.le_refl _, Byts.none_, ⟨none, 0, 0, true, by simpa using hx2, Nat.le_refl _, by omega, fun _ => rfl, Byts.none_, rfl, fun _ => rfl⟩, (touch_set (S := fun k => k = g) w g 0 _ rfl).trans (touch_set _ g 1 _ rfl), by simp⟩
  · have hd : decide ((n : Int) < (cnt : Int)) = false := decide_eq_false (by omega)
    have h1 : (cnt : Int) ≤ (c : Int) := by omega
    have h2 : (cnt : Int) ≤ (n : Int) := by omega
    have hok := Lib.hid (rByt_ok (st := st) cnt (by omega))
    have hle : cnt ≤ n := by omega
    go_enter Tryz.func144, Tryz.ntmps144
    go_wp2
    · subst h
      obtain rfl : n = c := by omega
      go_ret
      obtain ⟨e1, e2, e3⟩ := hok.out
      have hx2 := HX.out.set_ 0 (.slice A (n - n) 0)
      have t := touch_set (S := fun k => k = g) w g 0 (.slice A (n - n) 0) rfl
      have hb2 : Below B w (w.setCell ⟨g, 0, none⟩ (.slice A (n - n) 0)) := t.below (by omega) (fun k hk e => by omega)
      have hdr : (st.getD []).drop n = [] := List.drop_eq_nil_of_le (by omega)
      refine ⟨A, n, n, rfl, Nat.le_refl _, by rw [e1]; exact (HB.out.take_ (Nat.le_refl _)).below hb2, ⟨A, 0, 0, short, by simpa using hx2, by omega, by omega, fun _ => rfl, by rw [e2, hdr]; exact Byts.empty_at, by rw [e3]; exact HS.out, fun h => HST.out (none_of_isNone (by rw [← e3, h]; rfl))⟩, by simpa using t, by simp⟩
    · go_ret
      obtain ⟨e1, e2, e3⟩ := hok.out
      have hx2 := HX.out.set_ 0 (.slice (A.map fun x => x.add cnt) (n - cnt) (c - cnt))
      have t := touch_set (S := fun k => k = g) w g 0 (.slice (A.map fun x => x.add cnt) (n - cnt) (c - cnt)) rfl
      have hb2 : Below B w (w.setCell ⟨g, 0, none⟩ (.slice (A.map fun x => x.add cnt) (n - cnt) (c - cnt))) := t.below (by omega) (fun k hk e => by omega)
      refine ⟨A, cnt, c, rfl, by omega, by rw [e1]; exact (HB.out.take_ hle).below hb2, ⟨_, n - cnt, c - cnt, short, by simpa using hx2, by omega, by omega, fun h => ?_, by rw [e2]; exact (HB.out.drop_ hle).below hb2, by rw [e3]; exact HS.out, fun h => by rw [HST.out (none_of_isNone (by rw [← e3, h]; rfl))]; rfl⟩, t, by simp⟩
      rcases A with _ | a
      · have := HA.out rfl
        omega
      · cases h

theorem rNum_few {st} (h : (rByt 1 st).2 = none) : rNum st = (0, none) := by
  rcases st with _ | _ | ⟨y, r⟩
  · rfl
  · rfl
  · simp [rByt] at h
theorem rNum_ok {st} (h : ¬ (rByt 1 st).2 = none) : (rByt 1 st).1 = [(rNum st).1] ∧ (rByt 1 st).2 = (rNum st).2 := by
  rcases st with _ | _ | ⟨y, r⟩
  · simp [rByt] at h
  · simp [rByt] at h
  · simp [rByt, rNum]

theorem rnumber_any (g B : Nat) (st : Option (List Int)) (w : World) (hB : B ≤ g) (h : Rd w B g st) :
    Calls Tryz.prog 142 #[.pointer (some ⟨g, 0, none⟩)] w fun e w' => e = .returned (.int .i64 (rNum st).1) ∧ Rd w' B g (rNum st).2 ∧ Touch (fun k => k = g) w w' ∧ w'.heap.size = w.heap.size := by
  have HR := Lib.hid h
  clear h
  go_enter Tryz.func142, Tryz.ntmps142
  go_wp2_with fail
  refine (rbytes_any g 1 B st w hB (by omega) HR.out).mono ?_
  rintro e w1 ⟨A, n, c, rfl, hnc, hb, hrd, ht, hsz⟩
  have HB := Lib.hid hb
  have HD := Lib.hid hrd
  have HT := Lib.hid ht
  obtain ⟨A', n', c', short, hx, _, _, _, _, hsh, _⟩ := hrd
  have q1 := hx.cell 1
  simp at q1
  clear hb ht hx
  by_cases hn : (rByt 1 st).2 = none
  · have e0 := Lib.hid (rNum_few hn)
    rw [hn] at hsh
    subst hsh
    rw [hn] at HD
    go_wp2
    go_ret
    rw [e0.out]
    exact ⟨rfl, HD.out, HT.out, hsz⟩
  · obtain ⟨e1, e2⟩ := rNum_ok hn
    have hsf : short = false := by
      rw [hsh]
      cases h : (rByt 1 st).2 with
      | none => exact absurd h hn
      | some _ => rfl
    subst hsf
    rw [e2] at HD
    have HB2 := HB.out
    rw [e1] at HB2
    obtain rfl : n = 1 := HB2.1.symm
    obtain ⟨b, off, rfl, hbB, hc0⟩ := HB2.at_ (k := 0) (by omega)
    have hr := HB2.range 0
    rw [Nat.add_zero] at hc0
    simp only [List.getElem?_cons_zero, Option.getD_some] at hc0 hr
    generalize hzz : (rNum st).1 = z at hc0 hr e1
    have HZ := Lib.hid hzz
    have hwz : IntKind.i64.wrap z = z := by rw [IntKind.wrap_i64]; omega
    clear e1 e2 hn hsh HB2 hzz
    go_wp2
    go_ret
    exact ⟨by rw [HZ.out]; rfl, HD.out, HT.out, hsz⟩

theorem Touch.grow {S T : Nat → Prop} {w w' w'' : World} (h : Touch S w w') (k : Touch T w' w'') (hT : ∀ k, k < w.heap.size → ¬ T k) : Touch S w w'' :=
  ⟨k.os.trans h.os, k.tape.trans h.tape, k.output.trans h.output, Nat.le_trans h.size k.size, fun i hi hs => (k.block i (Nat.lt_of_lt_of_le hi h.size) (hT i hi)).trans (h.block i hi hs)⟩

set_option maxHeartbeats 800000 in
theorem rpath_any (g B : Nat) (st : Option (List Int)) (w : World) (hB : B ≤ g) (h : Rd w B g st) :
    Calls Tryz.prog 143 #[.pointer (some ⟨g, 0, none⟩)] w fun e w' => ∃ A n c, e = .returned (.slice A n c) ∧ OwnI w' w.heap.size A n c (rPart st).1 ∧ Rd w' B g (rPart st).2 ∧ Touch (fun k => k = g) w w' := by
  have HR := Lib.hid h
  have hg := h.lt
  have hbs := rNum_bs h.bs
  have hpb := rPart_bs h.bs
  clear h
  obtain ⟨cnt, hcnt⟩ : ∃ cnt : Nat, (rNum st).1 = cnt := ⟨(rNum st).1.toNat, by omega⟩
  have hpart : rPart st = rByt cnt (rNum st).2 := by unfold rPart; rw [hcnt, Int.toNat_natCast]
  obtain ⟨xs, st2, hps⟩ : ∃ xs st2, rPart st = (xs, st2) := ⟨_, _, rfl⟩
  rw [hps] at hpart hpb ⊢
  go_enter Tryz.func143, Tryz.ntmps143
  go_wp2_with fail
  refine (rnumber_any g B st w hB HR.out).mono ?_
  rintro e w1 ⟨rfl, hrd, ht, hsz⟩
  have HD := Lib.hid hrd
  have HT := Lib.hid ht
  clear hrd ht
  rw [hcnt]
  go_wp2_with fail
  refine (rbytes_any g cnt B _ w1 hB (by omega) HD.out).mono ?_
  rintro e w2 ⟨A, n, c, rfl, hnc, hb, hrd, ht, hsz2⟩
  rw [← hpart] at hb hrd
  have HB := Lib.hid hb
  have HD := Lib.hid hrd
  have HT := Lib.hid (HT.out.trans ht)
  have hn : n ≤ 255 := by
    have h1 := rByt_len (st := (rNum st).2) cnt
    rw [← hpart] at h1
    have := hb.1
    simp only at h1 this
    omega
  have LN : Hid (xs.length = n) := hb.1
  clear hrd ht hb hpart hps
  obtain ⟨i0, hi, hz0, hz1, hz2⟩ := info_parts Tryz.infoI
  have HI := Lib.hid hi
  have HZ0 := Lib.hid hz0
  have HZ1 := Lib.hid hz1
  have HZ2 := Lib.hid hz2
  clear hi hz0 hz1 hz2
  go_wp2
  go_loopw [3, 11] (fun p i wr => ∃ k : Nat, ∃ Ap cp, k ≤ n ∧ i = .int .i64 k ∧ p = .slice Ap k cp ∧ OwnI wr w.heap.size Ap k cp (xs.take k) ∧ Rd wr B g st2 ∧ Touch (fun k => k = g) w wr ∧ Byts wr B A n xs) (fun _ i _ => n - (intOf i).toNat)
  case atStart => exact ⟨0, none, 0, Nat.zero_le _, rfl, rfl, OwnI.nil _ _, HD.out, HT.out, HB.out⟩
  case round =>
    obtain ⟨k, Ap, cp, hk, rfl, rfl, hown, hrd, ht, hby⟩ := hrel
    have MR := Lib.hid hown
    have RR := Lib.hid hrd
    have TR := Lib.hid ht
    have YR := Lib.hid hby
    have srw := ht.size
    clear hown hrd ht hby
    by_cases hlt : k < n
    · obtain ⟨b, o, rfl, hbb, hc0⟩ := YR.out.at_ hlt
      have hrr := YR.out.range k
      have hst := take_step xs k (by rw [LN.out]; exact hlt)
      generalize xs[k]?.getD 0 = z at hc0 hrr hst
      have HST := Lib.hid hst
      clear hst
      have hwz : IntKind.i64.wrap z = z := by rw [IntKind.wrap_i64]; omega
      go_wp2_with (at_builtin; refine wpList_append_lies _ rfl _ _ 25 rfl w.heap.size 2 i0 (.int .i64 0) 1 8 Tryz.underlying25 HI.out HZ0.out HZ1.out HZ2.out rfl (by decide) _ _ _ rfl (MR.out.alloc _) ⟨wr.heap.size, 0, none⟩ 1 1 ([z].map (Value.int .i64)) rfl ?a0 ?a1 ?a2 (by omega) ?a3 ?a4 ?a5 _ rfl ?_)
      case a0 => first | rfl | (simp; done)
      case a1 =>
        intro j u hj
        match j, hj with
        | 0, hj => simp at hj; subst hj; simp [Addr.add]
      case a2 => intro u hu; simp at hu; subst hu; rfl
      case a3 => unfold maxLen; omega
      case a4 => omega
      case a5 => simp; omega
      intro g2 c2 w2 hown2 hgrow2 _ _
      have t2 : Touch (fun j => some j = (Value.slice Ap k cp).ownBlock) wr w2 := (Touch.of_below ((Below.refl _ _).alloc (Nat.le_refl _) _)).trans (Touch.of_grown hgrow2)
      have hge : ∀ j, j < w.heap.size → ¬ some j = (Value.slice Ap k cp).ownBlock := fun j hj e => by have := (World.ownsRow.lt MR.out j e.symm).1; omega
      have R2 := Lib.hid (RR.out.touch t2 hB (fun j hj => hge j (by omega)))
      have Y2 := Lib.hid (YR.out.below (t2.below (by omega) (fun j hj => hge j (by omega))))
      have T2 := Lib.hid (TR.out.grow t2 hge)
      have M2 : OwnI w2 w.heap.size (some ⟨g2, 0, none⟩) (k + 1) c2 (xs.take (k + 1)) := by
        rw [HST.out]
        unfold OwnI
        rw [List.map_append]
        simpa using hown2
      have M2 := Lib.hid M2
      clear t2 hge hown2 hgrow2
      go_wp2
      go_roundw
      case rel => exact ⟨k + 1, _, _, by omega, by go_num, rfl, M2.out, R2.out, T2.out, Y2.out⟩
      case measure => simp [intOf]; omega
    · obtain rfl : k = n := by omega
      have hst : xs.take k = xs := List.take_of_length_le (by rw [LN.out]; exact Nat.le_refl _)
      rw [hst] at MR
      go_wp2
      go_ret
      exact ⟨_, _, _, rfl, MR.out, RR.out, TR.out⟩
end Go.Proofs.YtdhnhgppapkikaaGreatDoor

-- PathK: What the program's KeyOf answers: for every list of numbers.
namespace Go.Proofs.YtdhnhgppapkikaaGreatDoor
set_option maxRecDepth 20000
open Go.RowKit

theorem isWorth_any (x : Int) (w : World) :
    Calls Tryz.prog 207 #[.int .i64 x] w fun e w' => e = .returned (.bool (decide (0 ≤ x ∧ x ≤ 15))) ∧ w' = w := by
  go_enter Tryz.func207, Tryz.ntmps207
  by_cases h : 0 ≤ x
  · go_wp2
    go_ret
    exact ⟨ret_b (decide_eq_decide.2 (by omega)), rfl⟩
  · go_wp2
    go_ret
    exact ⟨ret_b (by simp; omega), rfl⟩

theorem keyOf_any (A : Option Addr) (n c : Nat) (ps : List Int) (B : Nat) (w : World) (hn : n ≤ 1048576) (hB : B ≤ w.heap.size) (hp : Ints w B A n ps) :
    Calls Tryz.prog 176 #[.slice A n c] w fun e w' => e = .returned (.string (strOfNums (keyOf ps))) ∧ Below w.heap.size w w' := by
  have HP := Lib.hid hp
  clear hp
  by_cases hl : 8 < n
  · have hr := Lib.hid (keyOf_long ps (by have := HP.out.1; omega))
    go_enter Tryz.func176, Tryz.ntmps176
    go_wp2
    go_ret
    exact ⟨by rw [hr.out]; rfl, Below.refl _ _⟩
  · have hL : (ps.map dig).length = n := by rw [List.length_map]; exact HP.out.1
    have HM := Lib.hid (make_bytes (ps.map dig) n (by omega))
    go_enter Tryz.func176, Tryz.ntmps176
    have hmk := HM.out
    go_wp2
    clear hmk
    go_loopw [14] (fun i wr => ∃ k : Nat, k ≤ n ∧ i = .int .i64 k ∧ (∀ z ∈ ps.take k, 0 ≤ z ∧ z ≤ 15) ∧ wr = w.alloc (.cells (filled (ps.map dig) n k) 5)) (fun i _ => n - (intOf i).toNat)
    case atStart => exact ⟨0, Nat.zero_le _, rfl, by simp, rfl⟩
    case round =>
      obtain ⟨k, hk, rfl, hgood, rfl⟩ := hrel
      by_cases hlt : k < n
      · obtain ⟨b, off, rfl, hbB, hc⟩ := HP.out.at_ hlt
        have hbw : b < w.heap.size := by omega
        generalize hz : ps[k]?.getD 0 = z at hc
        have hg : (filled (ps.map dig) n k)[k]? = some (.int .u8 0) := filled_at _ n k hL hlt
        by_cases hq : 0 ≤ z ∧ z ≤ 15
        · have hd : decide (0 ≤ z ∧ z ≤ 15) = true := decide_eq_true hq
          obtain ⟨hq0, hq1⟩ := hq
          have hz16 : z < 16 := by omega
          have hst := filled_set (ps.map dig) n k hL hlt
          rw [map_at dig ps k (by have := HP.out.1; omega), hz] at hst
          have HS := Lib.hid hst
          clear hst
          go_wp2_with fail
          refine (isWorth_any _ _).mono ?_
          rintro e w' ⟨rfl, rfl⟩
          rw [hd]
          go_wp2
          go_roundw
          case rel => exact ⟨k + 1, by omega, by go_num, path_step ps k (by have := HP.out.1; omega) hgood (by rw [hz]; omega), by rw [← HS.out, ← dig_lit z (by omega) (by omega) (by show z.toNat < 16; omega)]; rfl⟩
          case measure => simp [intOf]; omega
        · have hd : decide (0 ≤ z ∧ z ≤ 15) = false := decide_eq_false hq
          go_wp2_with fail
          refine (isWorth_any _ _).mono ?_
          rintro e w' ⟨rfl, rfl⟩
          rw [hd]
          go_wp2
          go_ret
          exact ⟨by rw [keyOf_bad ps k (by have := HP.out.1; omega) (by rw [hz]; exact hq)]; rfl, (Below.refl _ _).alloc (Nat.le_refl _) _⟩
      · obtain rfl : k = n := by omega
        have e : ps.take k = ps := List.take_of_length_le (by have := HP.out.1; omega)
        rw [e] at hgood
        rw [filled_all _ k hL]
        have hb := Byts.new (w := w.alloc (.cells (u8s (ps.map dig)) 5)) hL (fun y hy => by
          obtain ⟨p, hp, rfl⟩ := List.mem_map.1 hy
          have := dig_bd p (hgood p hp)
          omega) (heap_alloc_new _ _)
        have hcv := conv_bytes _ k k _ _ _ hb
        go_wp2
        go_ret
        exact ⟨by rw [keyOf_good ps (by have := HP.out.1; omega) hgood]; rfl, (Below.refl _ _).alloc (Nat.le_refl _) _⟩
end Go.Proofs.YtdhnhgppapkikaaGreatDoor

-- NodeP: What the program's ValueOk and NodeOk answer, and their helpers: for every text, every node.
namespace Go.Proofs.YtdhnhgppapkikaaGreatDoor
set_option maxRecDepth 20000
open Go.RowKit

theorem isValueByte_any (c : Int) (w : World) :
    Calls Tryz.prog 208 #[.int .u8 c] w fun e w' => e = .returned (.bool (okLetter c)) ∧ w' = w := by
  have hcls : (97 ≤ c ∧ c ≤ 122) ∨ (48 ≤ c ∧ c ≤ 57) ∨ c < 48 ∨ (57 < c ∧ c < 97) ∨ 122 < c := by omega
  go_enter Tryz.func208, Tryz.ntmps208
  rcases hcls with ⟨h1, h2⟩ | ⟨h1, h2⟩ | h1 | ⟨h1, h2⟩ | h1
  · have d1 : decide ((97 : Int) ≤ c) = true := decide_eq_true (by omega)
    have d2 : decide (c ≤ 122) = true := decide_eq_true (by omega)
    go_wp2
    go_ret
    exact ⟨ret_b (by unfold okLetter; exact (decide_eq_true (by omega)).symm), rfl⟩
  · have d1 : decide ((97 : Int) ≤ c) = false := decide_eq_false (by omega)
    have d3 : decide ((48 : Int) ≤ c) = true := decide_eq_true (by omega)
    have d4 : decide (c ≤ 57) = true := decide_eq_true (by omega)
    go_wp2
    go_ret
    exact ⟨ret_b (by unfold okLetter; exact (decide_eq_true (by omega)).symm), rfl⟩
  · have d1 : decide ((97 : Int) ≤ c) = false := decide_eq_false (by omega)
    have d3 : decide ((48 : Int) ≤ c) = false := decide_eq_false (by omega)
    go_wp2
    go_ret
    exact ⟨ret_b (by unfold okLetter; exact (decide_eq_false (by omega)).symm), rfl⟩
  · have d1 : decide ((97 : Int) ≤ c) = false := decide_eq_false (by omega)
    have d3 : decide ((48 : Int) ≤ c) = true := decide_eq_true (by omega)
    have d4 : decide (c ≤ 57) = false := decide_eq_false (by omega)
    go_wp2
    go_ret
    exact ⟨ret_b (by unfold okLetter; exact (decide_eq_false (by omega)).symm), rfl⟩
  · have d1 : decide ((97 : Int) ≤ c) = true := decide_eq_true (by omega)
    have d2 : decide (c ≤ 122) = false := decide_eq_false (by omega)
    have d3 : decide ((48 : Int) ≤ c) = true := decide_eq_true (by omega)
    have d4 : decide (c ≤ 57) = false := decide_eq_false (by omega)
    go_wp2
    go_ret
    exact ⟨ret_b (by unfold okLetter; exact (decide_eq_false (by omega)).symm), rfl⟩

theorem valOk_size (zs : List Int) (h : zs.length = 0 ∨ 12 < zs.length) : valOk zs = false := by
  unfold valOk
  rw [decide_eq_false (by omega), Bool.false_and]

theorem valueOk_any (s : ByteArray) (w : World) (hs : s.size ≤ 1048576) :
    Calls Tryz.prog 177 #[.string s] w fun e w' => e = .returned (.bool (valOk (sb s))) ∧ w' = w := by
  have hlen := sb_len s
  go_enter Tryz.func177, Tryz.ntmps177
  by_cases h0 : s.size = 0
  · have d1 : decide ((s.size : Int) = 0) = true := decide_eq_true (by omega)
    go_wp2
    go_ret
    exact ⟨by rw [valOk_size (sb s) (by omega)]; rfl, rfl⟩
  · have d1 : decide ((s.size : Int) = 0) = false := decide_eq_false (by omega)
    have d0 : ((s.size : Int) == 0) = false := d1
    by_cases h12 : 12 < s.size
    · have d2 : decide ((12 : Int) < (s.size : Int)) = true := decide_eq_true (by omega)
      go_wp2
      go_ret
      exact ⟨by rw [valOk_size (sb s) (by omega)]; rfl, rfl⟩
    · have d2 : decide ((12 : Int) < (s.size : Int)) = false := decide_eq_false (by omega)
      go_wp2
      go_loop [14] (fun i => ∃ k : Nat, k ≤ s.size ∧ i = .int .i64 k ∧ (∀ z ∈ (sb s).take k, okLetter z = true)) (fun i => s.size - (intOf i).toNat)
      case atStart => exact ⟨0, Nat.zero_le _, rfl, by simp⟩
      case round =>
        obtain ⟨k, hk, rfl, hgood⟩ := hrel
        by_cases hlt : k < s.size
        · have hat := sb_at s k hlt
          have HAT := Lib.hid hat
          clear hat
          by_cases hq : okLetter ((s[k]'hlt).toNat : Int) = true
          · go_wp2_with fail
            refine (isValueByte_any _ _).mono ?_
            rintro e w' ⟨rfl, rfl⟩
            rw [hq]
            go_wp2
            go_round
            case rel => exact ⟨k + 1, by omega, by go_num, letters_step (sb s) k (by omega) hgood (by rw [HAT.out]; exact hq)⟩
            case measure => simp [intOf]; omega
          · have hq : okLetter ((s[k]'hlt).toNat : Int) = false := by simpa using hq
            go_wp2_with fail
            refine (isValueByte_any _ _).mono ?_
            rintro e w' ⟨rfl, rfl⟩
            rw [hq]
            go_wp2
            go_ret
            exact ⟨by rw [valOk_bad (sb s) k (by omega) (by rw [HAT.out]; exact hq)]; rfl, rfl⟩
        · have e : (sb s).take k = sb s := List.take_of_length_le (by omega)
          rw [e] at hgood
          have HG := Lib.hid (valOk_good (sb s) hgood)
          go_wp2
          go_ret
          exact ⟨by rw [HG.out]; exact ret_b (by rw [hlen]; exact (decide_eq_true (by omega)).symm), rfl⟩

/-- where the kid ahead of the k-th stands. -/
def lastAt (ks : List (Int × Int)) (k : Nat) : Int := if k = 0 then -1 else (ks[k - 1]?.getD (0, 0)).1
theorem lastAt_succ (ks : List (Int × Int)) (k : Nat) : lastAt ks (k + 1) = (ks[k]?.getD (0, 0)).1 := by
  unfold lastAt; rw [if_neg (by omega), Nat.add_sub_cancel]
theorem kidAt_of (ks : List (Int × Int)) (k : Nat) (h1 : ¬ (ks[k]?.getD (0, 0)).1 ≤ lastAt ks k) (h2 : 0 ≤ (ks[k]?.getD (0, 0)).1 ∧ (ks[k]?.getD (0, 0)).1 ≤ 15) (h3 : ¬ (ks[k]?.getD (0, 0)).2 ≤ 0) : KidAt ks k := by
  refine ⟨h2, by omega, fun h0 => ?_⟩
  unfold lastAt at h1
  rw [if_neg (by omega)] at h1
  omega
theorem kidAt_not (ks : List (Int × Int)) (k : Nat) (h : (ks[k]?.getD (0, 0)).1 ≤ lastAt ks k ∨ ¬ (0 ≤ (ks[k]?.getD (0, 0)).1 ∧ (ks[k]?.getD (0, 0)).1 ≤ 15) ∨ (ks[k]?.getD (0, 0)).2 ≤ 0) : ¬ KidAt ks k := by
  rintro ⟨h2, h3, h4⟩
  rcases h with h | h | h
  · unfold lastAt at h
    by_cases h0 : k = 0
    · rw [if_pos h0] at h; omega
    · rw [if_neg h0] at h
      have := h4 (by omega)
      omega
  · exact h h2
  · omega

set_option maxHeartbeats 1000000 in
theorem kidsOkP_any (A : Option Addr) (n c : Nat) (ks : List (Int × Int)) (B : Nat) (w : World) (hB : B ≤ w.heap.size) (hn : n ≤ 9223372036854775807) (hb : Kids w B A n ks) :
    Calls Tryz.prog 178 #[.slice A n c] w fun e w' => e = .returned (.bool (kidsOk ks)) ∧ Below w.heap.size w w' := by
  have HB := Lib.hid (hb.more hB)
  have hlen := hb.1
  clear hb
  go_enter Tryz.func178, Tryz.ntmps178
  go_wp2
  go_loopw [3, 8] (fun l i wr => ∃ k : Nat, k ≤ n ∧ i = .int .i64 k ∧ l = .int .i64 (lastAt ks k) ∧ (∀ j, j < k → KidAt ks j) ∧ Below w.heap.size w wr) (fun _ i _ => n - (intOf i).toNat)
  case atStart => exact ⟨0, Nat.zero_le _, rfl, rfl, fun j hj => absurd hj (by omega), Below.refl _ _⟩
  case round =>
    obtain ⟨k, hk, rfl, rfl, hgood, hbel⟩ := hrel
    by_cases hlt : k < n
    · obtain ⟨b, off, rfl, hbB, h0, h1⟩ := (HB.out.below hbel).at_ hlt
      have hls := lastAt_succ ks k
      have hyes := kidAt_of ks k
      have hno := kidAt_not ks k
      generalize ks[k]?.getD (0, 0) = x at h0 h1 hls hyes hno
      generalize lastAt ks k = l at hyes hno ⊢
      have LS := Lib.hid hls
      have HY := Lib.hid hyes
      have HN := Lib.hid hno
      have hsz := hbel.size
      have b1 := Lib.hid (hbel.alloc hsz (.cells #[.int .i64 x.1, .int .i64 x.2] 140))
      clear hls hyes hno hbel
      by_cases hR : x.1 ≤ l
      · have d1 : decide (x.1 ≤ l) = true := decide_eq_true hR
        go_wp2
        go_ret
        exact ⟨by rw [kidsOk_bad ks k (by omega) (HN.out (.inl hR))]; rfl, b1.out⟩
      · have d1 : decide (x.1 ≤ l) = false := decide_eq_false hR
        by_cases hA : 0 ≤ x.1 ∧ x.1 ≤ 15
        · have d2 : decide (0 ≤ x.1 ∧ x.1 ≤ 15) = true := decide_eq_true hA
          by_cases hN : x.2 ≤ 0
          · have d3 : decide (x.2 ≤ 0) = true := decide_eq_true hN
            go_wp2_with fail
            refine (isWorth_any _ _).mono ?_
            rintro e w' ⟨rfl, rfl⟩
            rw [d2]
            go_wp2
            go_ret
            exact ⟨by rw [kidsOk_bad ks k (by omega) (HN.out (.inr (.inr hN)))]; rfl, b1.out⟩
          · have d3 : decide (x.2 ≤ 0) = false := decide_eq_false hN
            go_wp2_with fail
            refine (isWorth_any _ _).mono ?_
            rintro e w' ⟨rfl, rfl⟩
            rw [d2]
            go_wp2
            go_roundw
            case rel =>
              refine ⟨k + 1, by omega, by go_num, by rw [LS.out], fun j hj => ?_, b1.out⟩
              rcases Nat.lt_or_ge j k with h | h
              · exact hgood j h
              · rw [show j = k by omega]
                exact HY.out hR hA hN
            case measure => simp [intOf]; omega
        · have d2 : decide (0 ≤ x.1 ∧ x.1 ≤ 15) = false := decide_eq_false hA
          go_wp2_with fail
          refine (isWorth_any _ _).mono ?_
          rintro e w' ⟨rfl, rfl⟩
          rw [d2]
          go_wp2
          go_ret
          exact ⟨by rw [kidsOk_bad ks k (by omega) (HN.out (.inr (.inl hA)))]; rfl, b1.out⟩
    · go_wp2
      go_ret
      exact ⟨by rw [kidsOk_good ks (fun i hi => hgood i (by omega))]; rfl, hbel⟩
end Go.Proofs.YtdhnhgppapkikaaGreatDoor

-- Allows: What the program's NodeOk answers, and the helper that asks whether a kind allows its parts: for every node.
namespace Go.Proofs.YtdhnhgppapkikaaGreatDoor
set_option maxRecDepth 20000
set_option linter.unusedSimpArgs false
open Go.RowKit

set_option maxHeartbeats 1600000 in      -- one walk, the ways through a switch of three
theorem allows_any (v : Value) (nd : MNode) (B : Nat) (w : World) (hB : B ≤ w.heap.size) (hv : NodeIn w B v nd) :
    Calls Tryz.prog 179 #[.int .i64 nd.kind, v] w fun e w' => e = .returned (.bool (kindOk nd)) ∧ Below w.heap.size w w' := by
  obtain ⟨Ap, np, cp, Ak, nk, ck, rfl, hnp, hnk, hsz, hp, hk⟩ := hv
  obtain ⟨kind, path, kids, val⟩ := nd
  have HK := Lib.hid (hk.more hB)
  have LP : Hid (path.length = np) := hp.1
  have LK : Hid (kids.length = nk) := hk.1
  have BW := fun m => Lib.hid (below_drewN ((Below.refl w.heap.size w).alloc (Nat.le_refl _) (.cells #[.int .i64 kind, .slice Ap np cp, .slice Ak nk ck, .string val] 134)) m)
  clear hp hk hsz
  go_enter Tryz.func179, Tryz.ntmps179
  by_cases hE : val.toList = []
  · obtain rfl := empty_str val hE
    clear hE
    by_cases hk1 : kind = 1
    · obtain rfl := hk1
      by_cases hz : nk = 0
      · obtain rfl := hz
        go_wp2
        go_quiet (fail)
        go_wp2
        go_ret
        exact ⟨ret_b (by simp [kindOk, hasVal, LP.out, LK.out]), (BW _).out⟩
      · have hd : decide ((nk : Int) = 0) = false := decide_eq_false (by omega)
        have hd0 : ((nk : Int) == 0) = false := hd
        go_wp2
        go_quiet (fail)
        go_wp2
        go_ret
        exact ⟨ret_b (by simp [kindOk, hasVal, LP.out, LK.out, hz]), (BW _).out⟩
    · by_cases hk2 : kind = 2
      · obtain rfl := hk2
        by_cases hz : np = 0
        · obtain rfl := hz
          go_wp2
          go_quiet (fail)
          go_wp2
          go_ret
          exact ⟨ret_b (by simp [kindOk, hasVal, LP.out, LK.out]), (BW _).out⟩
        · have hd : decide ((0 : Int) < (np : Int)) = true := decide_eq_true (by omega)
          have hz' : 0 < np := by omega
          by_cases hz1 : nk = 1
          · obtain rfl := hz1
            obtain ⟨b, off, rfl, hbB, p0, p1⟩ := HK.out.at_ (k := 0) (by omega)
            rw [Nat.zero_mul, Nat.add_zero] at p0 p1
            have hbw : b < w.heap.size := hbB
            have hx : ∃ x, kids[0]?.getD (0, 0) = x := ⟨_, rfl⟩
            obtain ⟨x, hx⟩ := hx
            rw [hx] at p0 p1
            have HX : Hid (at0 kids = x.1) := by unfold at0; rw [hx]; rfl
            clear hx
            go_wp2
            go_quiet (fail)
            go_wp2
            go_ret
            exact ⟨ret_b (by simp [kindOk, hasVal, LP.out, LK.out, hz']; rw [HX.out]; rfl), (BW _).out⟩
          · have hd1 : decide ((nk : Int) = 1) = false := decide_eq_false (by omega)
            have hd2 : ((nk : Int) == 1) = false := hd1
            go_wp2
            go_quiet (fail)
            go_wp2
            go_ret
            exact ⟨ret_b (by simp [kindOk, hasVal, LP.out, LK.out, hz', hz1]), (BW _).out⟩
      · by_cases hk3 : kind = 3
        · obtain rfl := hk3
          by_cases hz : np = 0
          · obtain rfl := hz
            by_cases hm : 1 < nk
            · have hd : decide ((1 : Int) < (nk : Int)) = true := decide_eq_true (by omega)
              go_wp2
              go_quiet (fail)
              go_wp2
              go_ret
              exact ⟨ret_b (by simp [kindOk, hasVal, LP.out, LK.out]; omega), (BW _).out⟩
            · have hd : decide ((1 : Int) < (nk : Int)) = false := decide_eq_false (by omega)
              by_cases hz1 : nk = 1
              · obtain rfl := hz1
                go_wp2
                go_quiet (fail)
                go_wp2
                go_ret
                exact ⟨ret_b (by simp [kindOk, hasVal, LP.out, LK.out]), (BW _).out⟩
              · obtain rfl : nk = 0 := by omega
                go_wp2
                go_quiet (fail)
                go_wp2
                go_ret
                exact ⟨ret_b (by simp [kindOk, hasVal, LP.out, LK.out]), (BW _).out⟩
          · have hd : decide ((np : Int) = 0) = false := decide_eq_false (by omega)
            have hd0 : ((np : Int) == 0) = false := hd
            go_wp2
            go_quiet (fail)
            go_wp2
            go_ret
            exact ⟨ret_b (by simp [kindOk, hasVal, LP.out, LK.out, hz]), (BW _).out⟩
        · have d1 : decide (kind = 1) = false := decide_eq_false hk1
          have d2 : decide (kind = 2) = false := decide_eq_false hk2
          have d3 : decide (kind = 3) = false := decide_eq_false hk3
          go_wp2
          go_quiet (fail)
          go_wp2
          go_ret
          exact ⟨ret_b (by simp [kindOk, hasVal, LP.out, LK.out, hk1, hk2, hk3]), (BW _).out⟩
  · have hE2 : val.toList.isEmpty = false := by simpa using hE
    by_cases hk1 : kind = 1
    · obtain rfl := hk1
      by_cases hz : nk = 0
      · obtain rfl := hz
        go_wp2
        go_quiet (fail)
        go_wp2
        go_ret
        exact ⟨ret_b (by simp [kindOk, hasVal, LP.out, LK.out, hE2]), (BW _).out⟩
      · have hd : decide ((nk : Int) = 0) = false := decide_eq_false (by omega)
        have hd0 : ((nk : Int) == 0) = false := hd
        go_wp2
        go_quiet (fail)
        go_wp2
        go_ret
        exact ⟨ret_b (by simp [kindOk, hasVal, LP.out, LK.out, hE2, hz]), (BW _).out⟩
    · by_cases hk2 : kind = 2
      · obtain rfl := hk2
        by_cases hz : np = 0
        · obtain rfl := hz
          go_wp2
          go_quiet (fail)
          go_wp2
          go_ret
          exact ⟨ret_b (by simp [kindOk, hasVal, LP.out, LK.out, hE2]), (BW _).out⟩
        · have hd : decide ((0 : Int) < (np : Int)) = true := decide_eq_true (by omega)
          have hz' : 0 < np := by omega
          go_wp2
          go_quiet (fail)
          go_wp2
          go_ret
          exact ⟨ret_b (by simp [kindOk, hasVal, LP.out, LK.out, hE2]), (BW _).out⟩
      · by_cases hk3 : kind = 3
        · obtain rfl := hk3
          by_cases hz : np = 0
          · obtain rfl := hz
            by_cases hm : 1 < nk
            · have hd : decide ((1 : Int) < (nk : Int)) = true := decide_eq_true (by omega)
              go_wp2
              go_quiet (fail)
              go_wp2
              go_ret
              exact ⟨ret_b (by simp [kindOk, hasVal, LP.out, LK.out, hE2]; omega), (BW _).out⟩
            · have hd : decide ((1 : Int) < (nk : Int)) = false := decide_eq_false (by omega)
              by_cases hz1 : nk = 1
              · obtain rfl := hz1
                go_wp2
                go_quiet (fail)
                go_wp2
                go_ret
                exact ⟨ret_b (by simp [kindOk, hasVal, LP.out, LK.out, hE2]), (BW _).out⟩
              · obtain rfl : nk = 0 := by omega
                go_wp2
                go_quiet (fail)
                go_wp2
                go_ret
                exact ⟨ret_b (by simp [kindOk, hasVal, LP.out, LK.out, hE2]), (BW _).out⟩
          · have hd : decide ((np : Int) = 0) = false := decide_eq_false (by omega)
            have hd0 : ((np : Int) == 0) = false := hd
            go_wp2
            go_quiet (fail)
            go_wp2
            go_ret
            exact ⟨ret_b (by simp [kindOk, hasVal, LP.out, LK.out, hE2, hz]), (BW _).out⟩
        · have d1 : decide (kind = 1) = false := decide_eq_false hk1
          have d2 : decide (kind = 2) = false := decide_eq_false hk2
          have d3 : decide (kind = 3) = false := decide_eq_false hk3
          go_wp2
          go_quiet (fail)
          go_wp2
          go_ret
          exact ⟨ret_b (by simp [kindOk, hasVal, LP.out, LK.out, hE2, hk1, hk2, hk3]), (BW _).out⟩
end Go.Proofs.YtdhnhgppapkikaaGreatDoor

-- NodeQ: What the program's NodeOk answers: for every node.
namespace Go.Proofs.YtdhnhgppapkikaaGreatDoor
set_option maxRecDepth 20000
set_option linter.unusedSimpArgs false
open Go.RowKit

theorem key_no (ps : List Int) (h : isPath ps = false) : strOfNums (keyOf ps) = { data := #[] } := by
  unfold keyOf
  rw [if_neg (by rw [h]; decide)]
  rfl
theorem key_yes (ps : List Int) (h : isPath ps = true) (hn : 0 < ps.length) : (strOfNums (keyOf ps)).toList.isEmpty = false := by
  obtain ⟨h1, h2⟩ := (isPath_iff ps).1 h
  rw [keyOf_good ps h1 h2]
  rcases hb : (strOfNums (ps.map dig)).toList.isEmpty with _ | _
  · rfl
  · have e := empty_str _ (by simpa using hb)
    have hs := strOfNums_size (ps.map dig)
    rw [e, List.length_map] at hs
    have h0 : (ByteArray.mk #[]).size = 0 := rfl
    omega

set_option maxHeartbeats 1600000 in      -- one walk, the ways through four tests
theorem progNodeOk_any (v : Value) (nd : MNode) (B : Nat) (w : World) (hB : B ≤ w.heap.size) (hv : NodeIn w B v nd) :
    Calls Tryz.prog 133 #[v] w fun e w' => e = .returned (.bool (nodeOk nd)) ∧ Below w.heap.size w w' := by
  have HN : Hid (∀ W, Below w.heap.size w W → NodeIn W w.heap.size v nd) := fun W hW => (hv.more hB).below hW
  obtain ⟨Ap, np, cp, Ak, nk, ck, rfl, hnp, hnk, hsz, hp, hk⟩ := hv
  obtain ⟨kind, path, kids, val⟩ := nd
  have HP := Lib.hid (hp.more hB)
  have HK := Lib.hid (hk.more hB)
  have LP : Hid (path.length = np) := hp.1
  have LK : Hid (kids.length = nk) := hk.1
  have SV := Lib.hid hsz
  have b0 := (Below.refl w.heap.size w).alloc (Nat.le_refl _) (.cells #[.int .i64 kind, .slice Ap np cp, .slice Ak nk ck, .string val] 134)
  have xb : Box (w.alloc (.cells #[.int .i64 kind, .slice Ap np cp, .slice Ak nk ck, .string val] 134)) w.heap.size _ _ := heap_alloc_new _ _
  have XB := Lib.hid xb
  have B0 := Lib.hid b0
  clear hp hk hsz b0 xb
  go_enter Tryz.func133, Tryz.ntmps133
  have q0 := XB.out.cell 0
  have q1 := XB.out.cell 1
  have q2 := XB.out.cell 2
  have q3 := XB.out.cell 3
  simp at q0 q1 q2 q3
  by_cases h0 : np = 0
  · obtain rfl := h0
    have h1 : isPath path = true := by rw [List.eq_nil_of_length_eq_zero LP.out]; rfl
    by_cases hE : val.toList = []
    · obtain rfl := empty_str val hE
      clear hE
      go_wp2_with fail
      refine (kidsOkP_any _ _ _ kids _ _ B0.out.size (by omega) (HK.out.below B0.out)).mono ?_
      rintro e w3 ⟨rfl, b3⟩
      have XB := Lib.hid (XB.out.below b3 XB.out.lt)
      have B3 := Lib.hid (B0.out.trans (b3.mono B0.out.size))
      clear b3 q0 q1 q2 q3
      have q0 := XB.out.cell 0
      have q1 := XB.out.cell 1
      have q2 := XB.out.cell 2
      have q3 := XB.out.cell 3
      simp at q0 q1 q2 q3
      by_cases h2 : kidsOk kids = true
      · rw [h2]
        go_wp2_with fail
        refine (allows_any _ ⟨kind, path, kids, { data := #[] }⟩ _ _ (B3.out.size) (HN.out _ B3.out)).mono ?_
        rintro e w9 ⟨rfl, b9⟩
        go_wp2
        go_ret
        exact ⟨ret_b (by simp [nodeOk, hasVal, h1, h2]), B3.out.trans (b9.mono B3.out.size)⟩
      · have h2 : kidsOk kids = false := by simpa using h2
        rw [h2]
        go_wp2
        go_ret
        exact ⟨ret_b (by simp [nodeOk, hasVal, h1, h2]), B3.out⟩
    · have hE2 : val.toList.isEmpty = false := by simpa using hE
      go_wp2_with fail
      refine (valueOk_any val _ SV.out).mono ?_
      rintro e w' ⟨rfl, rfl⟩
      by_cases h3 : valOk (sb val) = true
      · rw [h3]
        go_wp2_with fail
        refine (kidsOkP_any _ _ _ kids _ _ B0.out.size (by omega) (HK.out.below B0.out)).mono ?_
        rintro e w3 ⟨rfl, b3⟩
        have XB := Lib.hid (XB.out.below b3 XB.out.lt)
        have B3 := Lib.hid (B0.out.trans (b3.mono B0.out.size))
        clear b3 q0 q1 q2 q3
        have q0 := XB.out.cell 0
        have q1 := XB.out.cell 1
        have q2 := XB.out.cell 2
        have q3 := XB.out.cell 3
        simp at q0 q1 q2 q3
        by_cases h2 : kidsOk kids = true
        · rw [h2]
          go_wp2_with fail
          refine (allows_any _ ⟨kind, path, kids, val⟩ _ _ (B3.out.size) (HN.out _ B3.out)).mono ?_
          rintro e w9 ⟨rfl, b9⟩
          go_wp2
          go_ret
          exact ⟨ret_b (by simp [nodeOk, hasVal, h1, hE2, h3, h2]), B3.out.trans (b9.mono B3.out.size)⟩
        · have h2 : kidsOk kids = false := by simpa using h2
          rw [h2]
          go_wp2
          go_ret
          exact ⟨ret_b (by simp [nodeOk, hasVal, h1, hE2, h3, h2]), B3.out⟩
      · have h3 : valOk (sb val) = false := by simpa using h3
        rw [h3]
        go_wp2
        go_ret
        exact ⟨ret_b (by simp [nodeOk, hasVal, h1, hE2, h3]), B0.out⟩
  · have d0 : decide ((np : Int) = 0) = false := decide_eq_false (by omega)
    have d1 : ((np : Int) == 0) = false := d0
    go_wp2_with fail
    refine (keyOf_any _ _ _ path _ _ hnp B0.out.size (HP.out.below B0.out)).mono ?_
    rintro e w1 ⟨rfl, b1⟩
    have XB := Lib.hid (XB.out.below b1 XB.out.lt)
    have B1 := Lib.hid (B0.out.trans (b1.mono B0.out.size))
    clear b1 q0 q1 q2 q3
    have q0 := XB.out.cell 0
    have q1 := XB.out.cell 1
    have q2 := XB.out.cell 2
    have q3 := XB.out.cell 3
    simp at q0 q1 q2 q3
    by_cases h1 : isPath path = true
    · have hy := key_yes path h1 (by have := LP.out; omega)
      generalize strOfNums (keyOf path) = s at hy ⊢
      by_cases hE : val.toList = []
      · obtain rfl := empty_str val hE
        clear hE
        go_wp2_with fail
        refine (kidsOkP_any _ _ _ kids _ _ B1.out.size (by omega) (HK.out.below B1.out)).mono ?_
        rintro e w3 ⟨rfl, b3⟩
        have XB := Lib.hid (XB.out.below b3 XB.out.lt)
        have B3 := Lib.hid (B1.out.trans (b3.mono B1.out.size))
        clear b3 q0 q1 q2 q3
        have q0 := XB.out.cell 0
        have q1 := XB.out.cell 1
        have q2 := XB.out.cell 2
        have q3 := XB.out.cell 3
        simp at q0 q1 q2 q3
        by_cases h2 : kidsOk kids = true
        · rw [h2]
          go_wp2_with fail
          refine (allows_any _ ⟨kind, path, kids, { data := #[] }⟩ _ _ (B3.out.size) (HN.out _ B3.out)).mono ?_
          rintro e w9 ⟨rfl, b9⟩
          go_wp2
          go_ret
          exact ⟨ret_b (by simp [nodeOk, hasVal, h1, h2]), B3.out.trans (b9.mono B3.out.size)⟩
        · have h2 : kidsOk kids = false := by simpa using h2
          rw [h2]
          go_wp2
          go_ret
          exact ⟨ret_b (by simp [nodeOk, hasVal, h1, h2]), B3.out⟩
      · have hE2 : val.toList.isEmpty = false := by simpa using hE
        go_wp2_with fail
        refine (valueOk_any val _ SV.out).mono ?_
        rintro e w' ⟨rfl, rfl⟩
        by_cases h3 : valOk (sb val) = true
        · rw [h3]
          go_wp2_with fail
          refine (kidsOkP_any _ _ _ kids _ _ B1.out.size (by omega) (HK.out.below B1.out)).mono ?_
          rintro e w3 ⟨rfl, b3⟩
          have XB := Lib.hid (XB.out.below b3 XB.out.lt)
          have B3 := Lib.hid (B1.out.trans (b3.mono B1.out.size))
          clear b3 q0 q1 q2 q3
          have q0 := XB.out.cell 0
          have q1 := XB.out.cell 1
          have q2 := XB.out.cell 2
          have q3 := XB.out.cell 3
          simp at q0 q1 q2 q3
          by_cases h2 : kidsOk kids = true
          · rw [h2]
            go_wp2_with fail
            refine (allows_any _ ⟨kind, path, kids, val⟩ _ _ (B3.out.size) (HN.out _ B3.out)).mono ?_
            rintro e w9 ⟨rfl, b9⟩
            go_wp2
            go_ret
            exact ⟨ret_b (by simp [nodeOk, hasVal, h1, hE2, h3, h2]), B3.out.trans (b9.mono B3.out.size)⟩
          · have h2 : kidsOk kids = false := by simpa using h2
            rw [h2]
            go_wp2
            go_ret
            exact ⟨ret_b (by simp [nodeOk, hasVal, h1, hE2, h3, h2]), B3.out⟩
        · have h3 : valOk (sb val) = false := by simpa using h3
          rw [h3]
          go_wp2
          go_ret
          exact ⟨ret_b (by simp [nodeOk, hasVal, h1, hE2, h3]), B1.out⟩
    · have h1 : isPath path = false := by simpa using h1
      rw [key_no path h1]
      go_wp2
      go_ret
      exact ⟨ret_b (by simp [nodeOk, hasVal, h1]), B1.out⟩
end Go.Proofs.YtdhnhgppapkikaaGreatDoor

-- ReadK: The program's reader: the kids; and what the program's NodeFrom reads of some bytes.
namespace Go.Proofs.YtdhnhgppapkikaaGreatDoor
set_option maxRecDepth 20000
set_option linter.unusedSimpArgs false
set_option linter.unusedVariables false
open Go.RowKit

theorem nm8_any (A : Option Addr) (n c B : Nat) (zs : List Int) (w : World) (hb : Byts w B A n zs) :
    Calls Tryz.prog 209 #[.slice A n c] w fun e w' => (e = .returned (.tuple #[.int .i64 (nm8 zs), .bool true]) ∨ (e = .returned (.tuple #[.int .i64 0, .bool false]) ∧ nm8 zs = -1)) ∧ w = w' := by
  have hl := hb.1
  by_cases h8 : n = 8
  · subst h8
    by_cases h7 : zs[7]?.getD 0 ≤ 127
    · refine (from_yes A c zs B w hb h7).mono ?_
      rintro e w' ⟨rfl, rfl⟩
      exact ⟨.inl (by unfold nm8; rw [if_pos ⟨hl, h7⟩]), rfl⟩
    · refine (from_high A c zs B w hb (by omega)).mono ?_
      rintro e w' ⟨rfl, rfl⟩
      exact ⟨.inr ⟨rfl, by unfold nm8; rw [if_neg (by omega)]⟩, rfl⟩
  · refine (from_no_len A n c w h8).mono ?_
    rintro e w' ⟨rfl, rfl⟩
    exact ⟨.inr ⟨rfl, by unfold nm8; rw [if_neg (by omega)]⟩, rfl⟩
theorem rname_any (g B : Nat) (st : Option (List Int)) (w : World) (hB : B ≤ g) (h : Rd w B g st) :
    Calls Tryz.prog 180 #[.pointer (some ⟨g, 0, none⟩)] w fun e w' => e = .returned (.int .i64 (nm8 (rByt 8 st).1)) ∧ Rd w' B g (rByt 8 st).2 ∧ Touch (fun k => k = g) w w' ∧ w'.heap.size = w.heap.size := by
  have HR := Lib.hid h
  clear h
  obtain ⟨xs, hxs⟩ : ∃ xs, (rByt 8 st).1 = xs := ⟨_, rfl⟩
  rw [hxs]
  have HX := Lib.hid hxs
  clear hxs
  go_enter Tryz.func180, Tryz.ntmps180
  go_wp2_with fail
  refine (rbytes_any g 8 B st w hB (by omega) HR.out).mono ?_
  rintro e w1 ⟨A, n, c, rfl, hnc, hb, hrd, ht, hsz⟩
  have HD := Lib.hid hrd
  have HT := Lib.hid ht
  have HS := Lib.hid hsz
  rw [HX.out] at hb
  clear hrd ht hsz
  go_wp2_with fail
  refine (nm8_any A n c B xs w1 hb).mono ?_
  rintro e w' ⟨(rfl | ⟨rfl, h⟩), rfl⟩
  · go_wp2
    go_ret
    refine ⟨?_, HD.out, HT.out, HS.out⟩
    rfl
  · have H := Lib.hid h
    clear h
    go_wp2
    go_ret
    refine ⟨?_, HD.out, HT.out, HS.out⟩
    rw [H.out]
    rfl

theorem Box.touch {w w' : World} {g : Nat} {t : TypeId} {cs : Array Value} {S : Nat → Prop} (h : Box w g t cs) (k : Touch S w w') (hn : ¬ S g) : Box w' g t cs := (k.block g h.lt hn).trans h

set_option maxHeartbeats 800000 in
theorem rkids_any (g B : Nat) (st : Option (List Int)) (w : World) (hB : B ≤ g) (h : Rd w B g st) :
    Calls Tryz.prog 145 #[.pointer (some ⟨g, 0, none⟩)] w fun e w' => ∃ A n c, e = .returned (.slice A n c) ∧ OwnK w' w.heap.size A n c (rAll st).1 ∧ Rd w' B g (rAll st).2 ∧ Touch (fun k => k = g) w w' := by
  have HR := Lib.hid h
  have hg := h.lt
  have hbs := rNum_bs h.bs
  clear h
  obtain ⟨cnt, hcnt⟩ : ∃ cnt : Nat, (rNum st).1 = cnt := ⟨(rNum st).1.toNat, by omega⟩
  have hall : rAll st = rKids cnt (rNum st).2 := by unfold rAll; rw [hcnt, Int.toNat_natCast]
  obtain ⟨st1, hst1⟩ : ∃ st1, (rNum st).2 = st1 := ⟨_, rfl⟩
  rw [hall, hst1]
  go_enter Tryz.func145, Tryz.ntmps145
  go_wp2_with fail
  refine (rnumber_any g B st w hB HR.out).mono ?_
  rintro e w1 ⟨rfl, hrd, ht, hsz⟩
  rw [hst1] at hrd
  have HD := Lib.hid hrd
  have HT := Lib.hid ht
  have hc255 : cnt ≤ 255 := by have := hbs.2; omega
  clear hrd ht hall hbs
  rw [hcnt]
  obtain ⟨iK, hki, hk0, hk1, hk2⟩ := info_parts Tryz.infoK
  have HK := Lib.hid hki
  have HK0 := Lib.hid hk0
  have HK1 := Lib.hid hk1
  have HK2 := Lib.hid hk2
  clear hki hk0 hk1 hk2 hcnt hst1
  go_wp2
  go_loopw [3, 7] (fun p i wr => ∃ q : Nat, ∃ Ak ck, q ≤ cnt ∧ i = .int .i64 q ∧ p = .slice Ak q ck ∧ OwnK wr w.heap.size Ak q ck (rKids q st1).1 ∧ Rd wr B g (rKids q st1).2 ∧ Touch (fun k => k = g) w wr) (fun _ i _ => cnt - (intOf i).toNat)
  case atStart => exact ⟨0, none, 0, Nat.zero_le _, rfl, rfl, OwnK.nil _ _, HD.out, HT.out⟩
  case round =>
    obtain ⟨q, Ak, ck, hq, rfl, rfl, hown, hrd, ht⟩ := hrel
    have MR := Lib.hid hown
    have RR := Lib.hid hrd
    have TR := Lib.hid ht
    have srw := ht.size
    clear hown hrd ht
    by_cases hlt : q < cnt
    · have hstep : rKids (q + 1) st1 = ((rKids q st1).1 ++ [(rKid (rKids q st1).2).1], (rKid (rKids q st1).2).2) := rfl
      unfold rKid at hstep
      have HST := Lib.hid hstep
      clear hstep
      generalize (rKids q st1).1 = ks at MR HST
      generalize (rKids q st1).2 = s at RR HST
      have hge : ∀ j, (Value.slice Ak q ck).ownBlock = some j → ¬ j = g := fun j hj e => by have := (World.ownsRow.lt MR.out j hj).1; omega
      go_wp2_with fail
      refine (rnumber_any g B s wr hB RR.out).mono ?_
      rintro e wa ⟨rfl, ra, ta, sa⟩
      have RA := Lib.hid ra
      have MA := Lib.hid (MR.out.touch ta hge)
      have TA := Lib.hid (TR.out.trans ta)
      clear ra ta
      generalize (rNum s).1 = a at HST ⊢
      generalize (rNum s).2 = s2 at HST RA
      go_wp2_with fail
      refine (rname_any g B s2 wa hB RA.out).mono ?_
      rintro e wb ⟨rfl, rb, tb, sb_⟩
      have RB := Lib.hid rb
      have MB := Lib.hid (MA.out.touch tb hge)
      have TB := Lib.hid (TA.out.trans tb)
      clear rb tb hge sa sb_
      generalize nm8 (rByt 8 s2).1 = m at HST ⊢
      generalize (rByt 8 s2).2 = s3 at HST RB
      have hszb : w.heap.size ≤ wb.heap.size := TB.out.size
      go_wp2_with (at_builtin; refine wpList_append_lies _ rfl _ _ 132 rfl w.heap.size 140 iK (.agg #[.int .i64 0, .int .i64 0]) 2 16 Tryz.underlying132 HK.out HK0.out HK1.out HK2.out rfl (by decide) _ _ _ rfl (MB.out.alloc _) ⟨wb.heap.size, 0, none⟩ 1 1 ([a, m].map (Value.int .i64)) rfl ?a0 ?a1 ?a2 (by omega) ?a3 ?a4 ?a5 _ rfl ?_)
      case a0 => first | rfl | (simp; done)
      case a1 =>
        intro j u hj
        match j, hj with
        | 0, hj => simp at hj; subst hj; simp [Addr.add]
        | 1, hj => simp at hj; subst hj; simp [Addr.add]
      case a2 => intro u hu; simp at hu; rcases hu with rfl | rfl <;> rfl
      case a3 => unfold maxLen; omega
      case a4 => omega
      case a5 => simp; omega
      intro g2 c2 w2 hown2 hgrow2 _ _
      have t2 : Touch (fun j => some j = (Value.slice Ak q ck).ownBlock) wb w2 := (Touch.of_below ((Below.refl _ _).alloc (Nat.le_refl _) _)).trans (Touch.of_grown hgrow2)
      have hge : ∀ j, j < w.heap.size → ¬ some j = (Value.slice Ak q ck).ownBlock := fun j hj e => by have := (World.ownsRow.lt MB.out j e.symm).1; omega
      have R2 := Lib.hid (RB.out.touch t2 hB (fun j hj => hge j (by omega)))
      have T2 := Lib.hid (TB.out.grow t2 hge)
      have M2 : OwnK w2 w.heap.size (some ⟨g2, 0, none⟩) (q + 1) c2 (ks ++ [(a, m)]) := by
        unfold OwnK
        rw [kv_append, List.map_append]
        exact hown2
      have M2 := Lib.hid M2
      clear t2 hge hown2 hgrow2
      go_wp2
      go_roundw
      case rel => exact ⟨q + 1, _, _, by omega, by go_num, rfl, by rw [HST.out]; exact M2.out, by rw [HST.out]; exact R2.out, T2.out⟩
      case measure => simp [intOf]; omega
    · obtain rfl : q = cnt := by omega
      go_wp2
      go_ret
      exact ⟨_, _, _, rfl, MR.out, RR.out, TR.out⟩

theorem rd_new {w : World} {B g : Nat} {A : Option Addr} {n c : Nat} {bs : List Int} (hx : Box w g 207 #[.slice A n c, .bool false]) (hc : n ≤ c) (hn : n ≤ 1048576) (hA : A = none → c = 0) (hb : Byts w B A n bs) : Rd w B g (some bs) :=
  ⟨A, n, c, false, hx, hc, hn, hA, hb, rfl, fun h => by cases h⟩

set_option maxHeartbeats 2000000 in
theorem implNodeFrom_any (A : Option Addr) (n c : Nat) (bs : List Int) (B : Nat) (w : World) (hn : n ≤ 1048576) (hc : n ≤ c) (hA : A = none → c = 0) (hB : B ≤ w.heap.size) (hb : Byts w B A n bs) :
    Calls Tryz.prog 101 #[.slice A n c] w fun e w' => ∃ v nd b, e = .returned (.tuple #[v, .bool b]) ∧ OwnN w' w.heap.size v nd ∧ NodeRead bs nd b ∧ Below w.heap.size w w' := by
  obtain ⟨r0, hr0⟩ : ∃ r0, w.heap.size = r0 := ⟨_, rfl⟩
  obtain ⟨w1, hw1⟩ : ∃ w1, (w.alloc (.cells #[.int .i64 0, .slice none 0 0, .slice none 0 0, .string { data := #[] }] 134)).alloc (.cells #[.slice A n c, .bool false] 207) = w1 := ⟨_, rfl⟩
  have x1 : Box w1 r0 134 #[.int .i64 0, .slice none 0 0, .slice none 0 0, .string { data := #[] }] := by rw [← hw1, ← hr0]; exact heap2_0 w _ _
  have y1 : Box w1 (r0 + 1) 207 #[.slice A n c, .bool false] := by rw [← hw1, ← hr0]; exact heap2_1 w _ _
  have s1 : w1.heap.size = r0 + 1 + 1 := by rw [← hw1, size2, hr0]
  have b1 : Below r0 w w1 := by rw [← hw1, ← hr0]; exact below2 w _ _
  have rd1 := rd_new (B := r0) y1 hc hn hA ((hb.more (by omega)).below b1)
  have X := Lib.hid x1
  have R := Lib.hid rd1
  have B1 := Lib.hid b1
  have HW := Lib.hid hw1
  have hbs : Bs (some bs) := rd1.bs
  have HBS := Lib.hid hbs
  clear x1 y1 b1 rd1 hw1 hb hA hc
  have hrn := rNum_bs hbs
  have hrp := rPart_bs hrn.1
  have hrv := rPart_bs hrp.1
  have l1 := rPart_len hrn.1
  have l2 := rPart_len hrp.1
  obtain ⟨kd, st1, h1⟩ : ∃ a s, rNum (some bs) = (a, s) := ⟨_, _, rfl⟩
  rw [h1] at hrp hrv l1 l2
  obtain ⟨ps, st2, h2⟩ : ∃ a s, rPart st1 = (a, s) := ⟨_, _, rfl⟩
  simp only [h2] at hrp hrv l1 l2
  obtain ⟨vs, st3, h3⟩ : ∃ a s, rPart st2 = (a, s) := ⟨_, _, rfl⟩
  simp only [h3] at hrv l2
  obtain ⟨ks, st4, h4⟩ : ∃ a s, rAll st3 = (a, s) := ⟨_, _, rfl⟩
  have hnode : rNode (some bs) = (⟨kd, ps, ks, strOfNums vs⟩, st4) := by
    unfold rNode
    simp only [h1, h2, h3, h4]
  have HN := Lib.hid hnode
  have lk : ks.length ≤ 255 := by
    have h5 := rKids_len (rNum st3).1.toNat (st := (rNum st3).2)
    have h6 := (rNum_bs hrv.1).2
    have h7 : (rAll st3).1.length = (rNum st3).1.toNat := h5
    rw [h4] at h7
    simp only at h7
    omega
  have H1 := Lib.hid h1
  have H2 := Lib.hid h2
  have H3 := Lib.hid h3
  have H4 := Lib.hid h4
  clear h1 h2 h3 h4 hnode hrn hrp hrv hbs
  go_enter Tryz.func101, Tryz.ntmps101
  go_wp2_with fail
  rw [HW.out]
  refine (rnumber_any (r0 + 1) r0 _ w1 (by omega) R.out).mono ?_
  rintro e w2 ⟨rfl, rd, t, s2⟩
  rw [H1.out] at rd ⊢
  have R := Lib.hid rd
  have X := Lib.hid (X.out.touch t (by omega))
  have T := Lib.hid (t.mono (T := fun k => r0 ≤ k) (fun k e => by omega))
  have B2 := Lib.hid (B1.out.trans (T.out.below (by omega) (fun k hk h => by omega)))
  clear rd t
  simp only
  have hs2 : w2.heap.size = r0 + 1 + 1 := by omega
  obtain ⟨m, hm⟩ : ∃ m, w2.heap.size = m := ⟨_, rfl⟩
  obtain ⟨w3, hw3⟩ : ∃ w3, w2.alloc (.cells #[.int .i64 kd, .slice none 0 0, .slice none 0 0, .string { data := #[] }] 134) = w3 := ⟨_, rfl⟩
  have z3 : Box w3 m 134 #[.int .i64 kd, .slice none 0 0, .slice none 0 0, .string { data := #[] }] := by rw [← hw3, ← hm]; exact heap_alloc_new _ _
  have s3 : w3.heap.size = m + 1 := by rw [← hw3, ← hm]; simp
  have b3 : Below w2.heap.size w2 w3 := by rw [← hw3]; exact (Below.refl _ _).alloc (Nat.le_refl _) _
  have R := Lib.hid (R.out.below b3 (by omega))
  have X := Lib.hid (X.out.below b3 (by omega))
  have Z := Lib.hid z3
  have B3 := Lib.hid (B2.out.trans (b3.mono (by omega)))
  have HW3 := Lib.hid hw3
  have hm2 : r0 + 1 < m := by omega
  clear z3 b3 hw3 s1 s2 hs2
  go_wp2_with fail
  rw [HW3.out]
  refine (rpath_any (r0 + 1) r0 _ w3 (by omega) R.out).mono ?_
  rintro e w4 ⟨Ap, np, cp, rfl, hown, rd, t⟩
  rw [H2.out] at rd hown
  rw [s3] at hown
  have hnp : ps.length = np := hown.len
  have R := Lib.hid rd
  have X := Lib.hid (X.out.touch t (by omega))
  have Z := Lib.hid (Z.out.touch t (by omega))
  have B4 := Lib.hid (B3.out.trans (t.below (by omega) (fun k hk h => by omega)))
  have P := Lib.hid hown
  have s4 := t.size
  clear hown rd t
  obtain ⟨w5, hw5⟩ : ∃ w5, w4.setCell ⟨m, 1, none⟩ (.slice Ap np cp) = w5 := ⟨_, rfl⟩
  have t5 : Touch (fun k => k = m) w4 w5 := by rw [← hw5]; exact touch_set w4 m 1 _ rfl
  have z5 : Box w5 m 134 #[.int .i64 kd, .slice Ap np cp, .slice none 0 0, .string { data := #[] }] := by rw [← hw5]; exact Z.out.set_ 1 _
  have HW5 := Lib.hid hw5
  clear hw5
  have q1 := Z.out.cell 1
  have f1 := Z.out.free 1
  simp at q1
  go_wp2_with fail
  rw [HW5.out]
  clear q1 f1
  have Z := Lib.hid z5
  have R := Lib.hid (R.out.touch t5 (by omega) (fun k hk e => by omega))
  have X := Lib.hid (X.out.touch t5 (by omega))
  have P := Lib.hid (P.out.touch t5 (fun j hj e => by have := (World.ownsRow.lt P.out j hj).1; omega))
  have B5 := Lib.hid (B4.out.trans (t5.below (by omega) (fun k hk h => by omega)))
  have s5 := t5.size
  clear t5 z5
  refine (rnumber_any (r0 + 1) r0 _ w5 (by omega) R.out).mono ?_
  rintro e w6 ⟨rfl, rd, t, s6⟩
  have hbs2 := rNum_bs (R.out.bs)
  obtain ⟨cv, hcv⟩ : ∃ cv : Nat, (rNum st2).1 = cv := ⟨(rNum st2).1.toNat, by omega⟩
  have hpart : rByt cv (rNum st2).2 = (vs, st3) := by rw [← H3.out]; unfold rPart; rw [hcv, Int.toNat_natCast]
  have hcv255 : cv ≤ 255 := by omega
  rw [hcv]
  have R := Lib.hid rd
  have X := Lib.hid (X.out.touch t (by omega))
  have Z := Lib.hid (Z.out.touch t (by omega))
  have P := Lib.hid (P.out.touch t (fun j hj e => by have := (World.ownsRow.lt P.out j hj).1; omega))
  have B6 := Lib.hid (B5.out.trans (t.below (by omega) (fun k hk h => by omega)))
  clear rd t hbs2
  have HPV := Lib.hid hpart
  clear hpart hcv
  go_wp2_with fail
  refine (rbytes_any (r0 + 1) cv r0 _ w6 (by omega) (by omega) R.out).mono ?_
  rintro e w7 ⟨Av, nv, cc, rfl, _, yb, rd, t, s7⟩
  rw [HPV.out] at yb rd
  have R := Lib.hid rd
  have X := Lib.hid (X.out.touch t (by omega))
  have Z := Lib.hid (Z.out.touch t (by omega))
  have P := Lib.hid (P.out.touch t (fun j hj e => by have := (World.ownsRow.lt P.out j hj).1; omega))
  have B7 := Lib.hid (B6.out.trans (t.below (by omega) (fun k hk h => by omega)))
  clear rd t
  have hconv := conv_bytes Av nv cc vs _ w7 yb
  have hvl : vs.length ≤ 255 := l2
  obtain ⟨w8, hw8⟩ : ∃ w8, w7.setCell ⟨m, 3, none⟩ (.string (strOfNums vs)) = w8 := ⟨_, rfl⟩
  have t8 : Touch (fun k => k = m) w7 w8 := by rw [← hw8]; exact touch_set w7 m 3 _ rfl
  have z8 : Box w8 m 134 #[.int .i64 kd, .slice Ap np cp, .slice none 0 0, .string (strOfNums vs)] := by rw [← hw8]; exact Z.out.set_ 3 _
  have HW8 := Lib.hid hw8
  clear hw8 yb
  have q3 := Z.out.cell 3
  have f3 := Z.out.free 3
  simp at q3
  go_wp2_with fail
  rw [HW8.out]
  clear q3 f3 hconv
  have Z := Lib.hid z8
  have R := Lib.hid (R.out.touch t8 (by omega) (fun k hk e => by omega))
  have X := Lib.hid (X.out.touch t8 (by omega))
  have P := Lib.hid (P.out.touch t8 (fun j hj e => by have := (World.ownsRow.lt P.out j hj).1; omega))
  have B8 := Lib.hid (B7.out.trans (t8.below (by omega) (fun k hk h => by omega)))
  have s8 := t8.size
  have PL := Lib.hid (fun j hj => (World.ownsRow.lt P.out j hj).2)
  have hm8 : m < w8.heap.size := z8.lt
  clear t8 z8
  refine (rkids_any (r0 + 1) r0 _ w8 (by omega) R.out).mono ?_
  rintro e w9 ⟨Ak, nk, ck, rfl, hown, rd, t⟩
  rw [H4.out] at rd hown
  have hnk : ks.length = nk := hown.len
  have R := Lib.hid rd
  have X := Lib.hid (X.out.touch t (by omega))
  have Z := Lib.hid (Z.out.touch t (by omega))
  have P := Lib.hid (P.out.touch t (fun j hj e => by have := (World.ownsRow.lt P.out j hj).1; omega))
  have K := Lib.hid hown
  have B9 := Lib.hid (B8.out.trans (t.below (by omega) (fun k hk h => by omega)))
  have s9 := B9.out.size
  clear rd t hown
  obtain ⟨w10, hw10⟩ : ∃ w10, w9.setCell ⟨m, 2, none⟩ (.slice Ak nk ck) = w10 := ⟨_, rfl⟩
  have t10 : Touch (fun k => k = m) w9 w10 := by rw [← hw10]; exact touch_set w9 m 2 _ rfl
  have z10 : Box w10 m 134 #[.int .i64 kd, .slice Ap np cp, .slice Ak nk ck, .string (strOfNums vs)] := by rw [← hw10]; exact Z.out.set_ 2 _
  have q2 := Z.out.cell 2
  have f2 := Z.out.free 2
  simp at q2
  have Z := Lib.hid z10
  have R := Lib.hid (R.out.touch t10 (by omega) (fun k hk e => by omega))
  have X := Lib.hid (X.out.touch t10 (by omega))
  have P := Lib.hid (P.out.touch t10 (fun j hj e => by have := (World.ownsRow.lt P.out j hj).1; omega))
  have K := Lib.hid (K.out.touch t10 (fun j hj e => by have := (World.ownsRow.lt K.out j hj).1; omega))
  have B10 := Lib.hid (B9.out.trans (t10.below (by omega) (fun k hk h => by omega)))
  have hv : Hid (OwnN w10 (m + 1) (.agg #[.int .i64 kd, .slice Ap np cp, .slice Ak nk ck, .string (strOfNums vs)]) ⟨kd, ps, ks, strOfNums vs⟩) :=
    ⟨Ap, np, cp, Ak, nk, ck, rfl, by omega, by omega, by rw [strOfNums_size]; omega, P.out, K.out.base (by omega), fun j hj e => by have := PL.out j hj; have := (World.ownsRow.lt K.out j e).1; omega⟩
  have hlen : kd = kd := rfl
  clear t10 z10 PL P K s4 s5 s6 s7 s8
  obtain ⟨Al, nl, cl, sh, hx, _, _, _, yl, hsh, _⟩ := R.out
  have g0 := hx.cell 0
  have g1 := hx.cell 1
  simp at g0 g1
  have hnl := yl.1
  have lz := Z.out.lt
  have lx := X.out.lt
  have hrz : ¬ r0 = m := by omega
  clear hx yl hlen
  rcases st4 with _ | ys
  · obtain rfl : sh = true := hsh
    have x0 := X.out.cell 0
    have x1 := X.out.cell 1
    have x2 := X.out.cell 2
    have x3 := X.out.cell 3
    simp at x0 x1 x2 x3
    have fx := X.out.free
    go_wp2
    obtain ⟨hX, hb⟩ := set4 X.out (.int .i64 0) (.slice none 0 0) (.slice none 0 0) (.string { data := #[] })
    refine bodyPost_ret (v := .tuple #[node0V, .bool false]) (results_box2 Tryz.results101 _ _ r0 _ _ _ _ rfl rfl hX Tryz.underlying134 rfl (by kernel_rfl)) rfl ?_
    refine ⟨_, node0, false, rfl, node0_own _ _, rNode_none (by rw [HN.out]; simp), ?_⟩
    rw [hr0]
    exact B10.out.trans (hb.below (by have := B10.out.size; omega) (fun k hk h => by omega))
  · obtain rfl : sh = false := hsh
    by_cases hys : ys = []
    · subst hys
      obtain rfl : nl = 0 := hnl.symm
      have z0 := Z.out.cell 0
      have z1 := Z.out.cell 1
      have z2 := Z.out.cell 2
      have z3 := Z.out.cell 3
      simp at z0 z1 z2 z3
      go_wp2_with fail
      refine (progNodeOk_any _ _ _ w10 (Nat.le_refl _) hv.out.node).mono ?_
      rintro e w11 ⟨rfl, b11⟩
      have V := Lib.hid (hv.out.below b11)
      have X := Lib.hid (X.out.below b11 lx)
      have Z := Lib.hid (Z.out.below b11 lz)
      have s10 := B10.out.size
      have B11 := Lib.hid (B10.out.trans (b11.mono (by omega)))
      have s11 := B11.out.size
      clear z0 z1 z2 z3 b11 hw10 q2 f2 g0 g1
      have z0 := Z.out.cell 0
      have z1 := Z.out.cell 1
      have z2 := Z.out.cell 2
      have z3 := Z.out.cell 3
      simp at z0 z1 z2 z3
      have x0 := X.out.cell 0
      have x1 := X.out.cell 1
      have x2 := X.out.cell 2
      have x3 := X.out.cell 3
      simp at x0 x1 x2 x3
      have fx := X.out.free
      by_cases hok : nodeOk ⟨kd, ps, ks, strOfNums vs⟩ = true
      · rw [hok]
        go_wp2_with fail
        obtain ⟨hX, hb⟩ := set4 X.out (.int .i64 kd) (.slice Ap np cp) (.slice Ak nk ck) (.string (strOfNums vs))
        refine bodyPost_ret (v := .tuple #[.agg #[.int .i64 kd, .slice Ap np cp, .slice Ak nk ck, .string (strOfNums vs)], .bool true]) (results_box2 Tryz.results101 _ _ r0 _ _ _ _ rfl rfl hX Tryz.underlying134 rfl (by kernel_rfl)) rfl ?_
        have hyes := rNode_back HBS.out (by rw [HN.out]) (by rw [HN.out]; exact hok)
        rw [HN.out] at hyes
        rw [hr0]
        exact ⟨_, _, true, rfl, (V.out.touch hb (fun g hg h => by have := (V.out.blk hg).1; omega)).base (by omega), hyes, B11.out.trans (hb.below (by omega) (fun k hk h => by omega))⟩
      · have hok' : nodeOk ⟨kd, ps, ks, strOfNums vs⟩ = false := by simpa using hok
        rw [hok']
        go_wp2_with fail
        obtain ⟨hX, hb⟩ := set4 X.out (.int .i64 0) (.slice none 0 0) (.slice none 0 0) (.string { data := #[] })
        refine bodyPost_ret (v := .tuple #[node0V, .bool false]) (results_box2 Tryz.results101 _ _ r0 _ _ _ _ rfl rfl hX Tryz.underlying134 rfl (by kernel_rfl)) rfl ?_
        rw [hr0]
        exact ⟨_, node0, false, rfl, node0_own _ _, rNode_none (by rw [HN.out]; simp [hok']), B11.out.trans (hb.below (by omega) (fun k hk h => by omega))⟩
    · have hpos : 0 < nl := by
        rcases ys with _ | ⟨y, r⟩
        · exact absurd rfl hys
        · have h0 : (y :: r).length = nl := hnl
          simp at h0; omega
      have hd : decide ((0 : Int) < (nl : Int)) = true := decide_eq_true (by omega)
      have x0 := X.out.cell 0
      have x1 := X.out.cell 1
      have x2 := X.out.cell 2
      have x3 := X.out.cell 3
      simp at x0 x1 x2 x3
      have fx := X.out.free
      go_wp2
      obtain ⟨hX, hb⟩ := set4 X.out (.int .i64 0) (.slice none 0 0) (.slice none 0 0) (.string { data := #[] })
      refine bodyPost_ret (v := .tuple #[node0V, .bool false]) (results_box2 Tryz.results101 _ _ r0 _ _ _ _ rfl rfl hX Tryz.underlying134 rfl (by kernel_rfl)) rfl ?_
      refine ⟨_, node0, false, rfl, node0_own _ _, rNode_none (by rw [HN.out]; simp [hys]), ?_⟩
      rw [hr0]
      exact B10.out.trans (hb.below (by have := B10.out.size; omega) (fun k hk h => by omega))
end Go.Proofs.YtdhnhgppapkikaaGreatDoor

-- Named: The program's nodeNamed: the node of some bytes, where they are of one and have this name.
namespace Go.Proofs.YtdhnhgppapkikaaGreatDoor
set_option maxRecDepth 100000
set_option linter.unusedVariables false
set_option linter.unusedSimpArgs false
open Go.RowKit

set_option maxHeartbeats 1000000 in
theorem named_any (m : Int) (A : Option Addr) (n c : Nat) (bs : List Int) (B : Nat) (w : World) (hn : n ≤ 1048576) (hc : n ≤ c) (hA : A = none → c = 0) (hB : B ≤ w.heap.size) (hb : Byts w B A n bs) :
    Calls Tryz.prog 89 #[.int .i64 m, .slice A n c] w fun e w' => ∃ v nd r, e = .returned (.tuple #[v, .bool r]) ∧ OwnN w' w.heap.size v nd ∧ Below w.heap.size w w' ∧ ((r = true ∧ NodeRead bs nd true ∧ nameOf bs = m) ∨ (r = false ∧ ¬ (IsNode bs ∧ nameOf bs = m))) := by
  obtain ⟨w1, hw1⟩ : ∃ w1, w.alloc (.cells #[.int .i64 0, .slice none 0 0, .slice none 0 0, .string { data := #[] }] 134) = w1 := ⟨_, rfl⟩
  have x1 : Box w1 w.heap.size 134 _ := hw1 ▸ heap_alloc_new _ _
  have b1 : Below w.heap.size w w1 := hw1 ▸ (Below.refl _ _).alloc (Nat.le_refl _) _
  have s1 : w1.heap.size = w.heap.size + 1 := hw1 ▸ by simp
  have X1 := Lib.hid x1
  have B1 := Lib.hid b1
  have HB := Lib.hid ((hb.more hB).below b1)
  clear x1 b1 hb
  go_enter Tryz.func89, Tryz.ntmps89
  go_wp2_with fail
  refine (implNodeFrom_any A n c bs w.heap.size w1 hn hc hA (by omega) HB.out).mono ?_
  rintro e w2 ⟨v, nd, r, rfl, own, rd, b2⟩
  have s2 := b2.size
  have O2 := Lib.hid own
  have RD := Lib.hid rd
  have B2 := Lib.hid (B1.out.trans (b2.mono (by omega)))
  have X2 := Lib.hid (X1.out.below b2 (by omega))
  have Y2 := Lib.hid (HB.out.below (b2.mono (by omega)))
  obtain ⟨Ap, np, cp, Ak, nk, ck, rfl, _⟩ := own
  clear rd b2 hw1
  obtain ⟨w3, hw3⟩ : ∃ w3, w2.alloc (.cells #[.int .i64 nd.kind, .slice Ap np cp, .slice Ak nk ck, .string nd.val] 134) = w3 := ⟨_, rfl⟩
  have b3 : Below w2.heap.size w2 w3 := hw3 ▸ (Below.refl _ _).alloc (Nat.le_refl _) _
  have N3 := Lib.hid (show Box w3 w2.heap.size 134 #[.int .i64 nd.kind, .slice Ap np cp, .slice Ak nk ck, .string nd.val] from hw3 ▸ heap_alloc_new _ _)
  have s3 : w3.heap.size = w2.heap.size + 1 := hw3 ▸ by simp
  have B3 := Lib.hid (B2.out.trans (b3.mono (by omega)))
  have X3 := Lib.hid (X2.out.below b3 (by omega))
  have O3 := Lib.hid (O2.out.below b3)
  have Y3 := Lib.hid (Y2.out.below (b3.mono (by omega)))
  have HY := Lib.hid (IsNode.of RD.out)
  have hNM : Calls Tryz.prog 123 #[.slice A n c] w3 fun e w' => e = .returned (.int .i64 (nameOf bs)) ∧ w' = w3 :=
    (name_any A n c bs w.heap.size w3 (by omega) Y3.out).mono fun e w' h => ⟨h.1, h.2.symm⟩
  have NM := Lib.hid hNM
  clear hNM b3 X2 B2 Y3 Y2 HB
  cases r with
  | false =>
    have hno := Lib.hid (show ¬ (IsNode bs ∧ nameOf bs = m) from fun h => absurd (HY.out.2 h.1) (by simp))
    have q0 := X3.out.cell 0
    have q1 := X3.out.cell 1
    have q2 := X3.out.cell 2
    have q3 := X3.out.cell 3
    have f0 := X3.out.free
    simp at q0 q1 q2 q3
    obtain ⟨hX, hb⟩ := set4 X3.out (.int .i64 0) (.slice none 0 0) (.slice none 0 0) (.string { data := #[] })
    have HX := Lib.hid hX
    have HB := Lib.hid hb
    clear hX hb
    go_wp2
    refine bodyPost_ret (v := .tuple #[node0V, .bool false]) (results_box2 Tryz.results89 _ _ w.heap.size _ _ _ _ rfl rfl HX.out Tryz.underlying134 rfl (by kernel_rfl)) rfl ?_
    exact ⟨_, node0, false, rfl, node0_own _ _, B3.out.trans (HB.out.below B3.out.size (fun k hk h => by omega)), .inr ⟨rfl, hno.out⟩⟩
  | true =>
    have hyes := HY.out.1 rfl
    have HYES := Lib.hid hyes
    clear hyes
    by_cases h1 : nameOf bs = m
    · have hb2 : (nameOf bs != m) = false := by simp [h1]
      have H1 := Lib.hid h1
      clear h1
      go_wp2_with fail
      refine (NM.out).mono ?_
      rintro e w' ⟨rfl, hw'⟩
      rw [hw']
      clear hw' w'
      clear hw3
      have hr0 : w.heap.size < w2.heap.size := by omega
      have q0 := X3.out.cell 0
      have q1 := X3.out.cell 1
      have q2 := X3.out.cell 2
      have q3 := X3.out.cell 3
      have f0 := X3.out.free
      have n0 := N3.out.cell 0
      have n1 := N3.out.cell 1
      have n2 := N3.out.cell 2
      have n3 := N3.out.cell 3
      simp at q0 q1 q2 q3 n0 n1 n2 n3
      obtain ⟨hX, hb⟩ := set4 X3.out (.int .i64 nd.kind) (.slice Ap np cp) (.slice Ak nk ck) (.string nd.val)
      have HX := Lib.hid hX
      have HB := Lib.hid hb
      clear hX hb
      go_wp2
      refine bodyPost_ret (v := .tuple #[.agg #[.int .i64 nd.kind, .slice Ap np cp, .slice Ak nk ck, .string nd.val], .bool true]) (results_box2 Tryz.results89 _ _ w.heap.size _ _ _ _ rfl rfl HX.out Tryz.underlying134 rfl (by kernel_rfl)) rfl ?_
      have O4 := O3.out
      refine ⟨_, nd, true, rfl, (O4.touch HB.out (fun g hg h => by have := (O3.out.blk hg).1; omega)).base (by omega), B3.out.trans (HB.out.below B3.out.size (fun k hk h => by omega)), .inl ⟨rfl, RD.out, H1.out⟩⟩
    · have hb2 : (nameOf bs != m) = true := by simp [h1]
      have H1 := Lib.hid h1
      clear h1
      go_wp2_with fail
      refine (NM.out).mono ?_
      rintro e w' ⟨rfl, hw'⟩
      rw [hw']
      clear hw' w'
      clear hw3
      have q0 := X3.out.cell 0
      have q1 := X3.out.cell 1
      have q2 := X3.out.cell 2
      have q3 := X3.out.cell 3
      have f0 := X3.out.free
      simp at q0 q1 q2 q3
      obtain ⟨hX, hb⟩ := set4 X3.out (.int .i64 0) (.slice none 0 0) (.slice none 0 0) (.string { data := #[] })
      have HX := Lib.hid hX
      have HB := Lib.hid hb
      clear hX hb
      go_wp2
      refine bodyPost_ret (v := .tuple #[node0V, .bool false]) (results_box2 Tryz.results89 _ _ w.heap.size _ _ _ _ rfl rfl HX.out Tryz.underlying134 rfl (by kernel_rfl)) rfl ?_
      exact ⟨_, node0, false, rfl, node0_own _ _, B3.out.trans (HB.out.below B3.out.size (fun k hk h => by omega)), .inr ⟨rfl, fun h => H1.out h.2⟩⟩
end Go.Proofs.YtdhnhgppapkikaaGreatDoor

-- NodesOf: What the program makes of cells: its list of nodes.
namespace Go.Proofs.YtdhnhgppapkikaaGreatDoor
set_option maxRecDepth 100000
set_option linter.unusedVariables false
set_option linter.unusedSimpArgs false
open Go.RowKit

theorem NV.use_blk {x : NV} {g : Nat} (h : x.use g) : NodeBlk x.v g := by
  obtain ⟨Ap, np, cp, Ak, nk, ck, nd⟩ := x
  rcases h with ⟨_, a, ha, e⟩ | ⟨_, a, ha, e⟩
  · exact ⟨_, Ap, np, cp, Ak, nk, ck, _, rfl, .inl (by simp only at ha; rw [ha, ← e]; rfl)⟩
  · exact ⟨_, Ap, np, cp, Ak, nk, ck, _, rfl, .inr (by simp only at ha; rw [ha, ← e]; rfl)⟩
/-- the list of nodes is that of the cells, each node in memory of the call's own. -/
structure NodesIs (w : World) (lo : Nat) (R : SR) (ps : List (Int × NV)) (cs : List (Int × List Int)) : Prop where
  sl : SLN w lo R ps
  len : ps.length = cs.length
  at_ : ∀ i, i < ps.length → (ps[i]?.getD (0, nv0)).1 = (cel cs i).1 ∧ NodeRead (cel cs i).2 (ps[i]?.getD (0, nv0)).2.nd true
  own : ∀ y ∈ ps, OwnN w lo y.2.v y.2.nd
  blk : ∀ y ∈ ps, ∀ g, NodeBlk y.2.v g → ¬ R.at_ g
theorem NodesIs.below {w w' : World} {lo : Nat} {R : SR} {ps : List (Int × NV)} {cs : List (Int × List Int)} (h : NodesIs w lo R ps cs) (hb : Below w.heap.size w w') : NodesIs w' lo R ps cs :=
  ⟨h.sl.below hb, h.len, h.at_, fun y hy => (h.own y hy).below hb, h.blk⟩
theorem NodesIs.touch {S : Nat → Prop} {w w' : World} {lo : Nat} {R : SR} {ps : List (Int × NV)} {cs : List (Int × List Int)} (h : NodesIs w lo R ps cs) (t : Touch S w w') (h1 : ∀ g, R.at_ g → ¬ S g) (h2 : ∀ y ∈ ps, ∀ g, NodeBlk y.2.v g → ¬ S g) : NodesIs w' lo R ps cs :=
  ⟨h.sl.touch t h1 (fun y hy g hg => h2 y hy g (NV.use_blk hg)), h.len, h.at_, fun y hy => (h.own y hy).touch t (h2 y hy), h.blk⟩
theorem SLN.not_at {w : World} {lo g : Nat} {R : SR} {ps : List (Int × NV)} {t : TypeId} {cs : Array Value} (h : SLN w lo R ps) (hb : Box w g t cs) (h1 : t ≠ 2) (h2 : t ≠ 134) : ¬ R.at_ g := fun e => by
  rcases e with ⟨a, ha, e⟩ | ⟨a, ha, e⟩
  · exact own_box_ne h.keys hb h1 (by rw [ha, ← e]; rfl)
  · exact own_box_ne h.vals hb h2 (by rw [ha, ← e]; rfl)
theorem low_end (l : List Int) (m : Int) (h : ∀ x ∈ l, x < m) : lowI l m = l.length ∧ hitI l m = false := by
  have e : lowI l m = l.length := lowI_at l m l.length (Nat.le_refl _) (fun j hj => by rw [List.getElem?_eq_getElem hj]; exact h _ (List.getElem_mem hj)) (fun hk => absurd hk (Nat.lt_irrefl _))
  exact ⟨e, by unfold hitI; rw [e]; simp⟩
theorem cel_take_at (cs : List (Int × List Int)) (k i : Nat) (h : i < k) : cel (cs.take k) i = cel cs i := by
  unfold cel
  rw [List.getElem?_take, if_pos h]
/-- one more node behind the others. -/
theorem NodesIs.snoc {w w' : World} {lo p : Nat} {R R' : SR} {ps : List (Int × NV)} {cs : List (Int × List Int)} {x : NV} {k : Nat} (h : NodesIs w lo R ps (cs.take k)) (hk : k < cs.length) (hx : OwnN w lo x.v x.nd) (hxb : ∀ g, NodeBlk x.v g → ¬ R.at_ g)
    (hp : ∀ y ∈ ps, ∀ g, NodeBlk y.2.v g → g ≠ p) (hxp : ∀ g, NodeBlk x.v g → g ≠ p) (hr : NodeRead (cel cs k).2 x.nd true)
    (hs : SLN w' lo R' (ps ++ [((cel cs k).1, x)])) (hf : R'.from_ R w.heap.size) (t : Touch (fun g => g = p ∨ R.at_ g) w w') : NodesIs w' lo R' (ps ++ [((cel cs k).1, x)]) (cs.take (k + 1)) := by
  have hl := h.len
  rw [List.length_take] at hl
  have hpl : ps.length = k := by omega
  refine ⟨hs, by simp [hpl]; omega, fun i hi => ?_, fun y hy => ?_, fun y hy g hg e => ?_⟩
  · simp at hi
    rw [cel_take_at cs _ i (by omega)]
    by_cases e : i = k
    · subst e
      rw [← hpl, List.getElem?_append_right (Nat.le_refl _)]
      simp [hpl]
      exact hr
    · have h1 := h.at_ i (by omega)
      rw [cel_take_at cs _ i (by omega)] at h1
      rw [List.getElem?_append_left (by omega)]
      exact h1
  · rcases List.mem_append.1 hy with hy | hy
    · exact (h.own y hy).touch t (fun g hg e => e.elim (hp y hy g hg) (h.blk y hy g hg))
    · simp at hy
      subst hy
      exact hx.touch t (fun g hg e => e.elim (hxp g hg) (hxb g hg))
  · rcases List.mem_append.1 hy with hy | hy
    · rcases hf g e with e | e
      · exact h.blk y hy g hg e
      · have := ((h.own y hy).blk hg).2; omega
    · simp at hy
      subst hy
      rcases hf g e with e | e
      · exact hxb g hg e
      · have := (hx.blk hg).2; omega
/-- the last name that has come; 0 where none has. -/
def lastC (cs : List (Int × List Int)) (k : Nat) : Int := if k = 0 then 0 else (cel cs (k - 1)).1
theorem kvs_rise_lt {w : World} {lo : Nat} {R : SR} {ps : List (Int × NV)} {cs : List (Int × List Int)} {k : Nat} {m : Int} (h : NodesIs w lo R ps (cs.take k)) (hk : k < cs.length) (hm : lastC cs k < m) : ∀ x ∈ kvs ps, x < m := by
  have hl := h.len
  rw [List.length_take] at hl
  have hpl : ps.length = k := by omega
  intro x hx
  obtain ⟨i, hi, rfl⟩ := List.mem_iff_getElem.1 hx
  have hi' : i < ps.length := by simpa [kvs] using hi
  have h1 := riseI_le (kvs ps) h.sl.rise i (k - 1) (by omega) (by rw [kvs_len]; omega)
  have h2 := h.at_ (k - 1) (by omega)
  rw [cel_take_at cs k (k - 1) (by omega)] at h2
  rw [kvs_at ps (k - 1) (by omega)] at h1
  rw [List.getElem?_eq_getElem (by omega)] at h2
  unfold lastC at hm
  rw [if_neg (by omega)] at hm
  rw [List.getElem?_eq_getElem hi] at h1
  have h3 : (kvs ps)[i] ≤ ps[k - 1].1 := h1
  have h4 : ps[k - 1].1 = (cel cs (k - 1)).1 := h2.1
  omega
theorem not_right_low (cs : List (Int × List Int)) (k : Nat) (hk : k < cs.length) (hle : (cel cs k).1 ≤ lastC cs k) : ¬ Right cs := fun h => by
  have h3 := h.pos k hk
  have h4 := (h.2 k hk).2.2
  unfold lastC at hle
  by_cases h0 : k = 0
  · rw [if_pos h0] at hle; omega
  · rw [if_neg h0] at hle
    have := h4 (by omega)
    omega
/-- a box of two cells, written anew. -/
theorem set2 {w : World} {g : Nat} {t : TypeId} {a b : Value} (h : Box w g t #[a, b]) (a' b' : Value) :
    Box ((w.setCell ⟨g, 0, none⟩ a').setCell ⟨g, 1, none⟩ b') g t #[a', b'] ∧ Touch (fun x => x = g) w ((w.setCell ⟨g, 0, none⟩ a').setCell ⟨g, 1, none⟩ b') :=
  ⟨(h.set_ 0 a').set_ 1 b', (touch_set (S := fun x => x = g) w g 0 a' rfl).trans (touch_set _ g 1 b' rfl)⟩
theorem Box.drewN {w : World} {g : Nat} {t : TypeId} {cs : Array Value} (h : Box w g t cs) (k : Nat) : Box (w.drewN k) g t cs := h
set_option maxHeartbeats 4000000 in
theorem nodesOf_any (A : Option Addr) (n c : Nat) (cs : List (Int × List Int)) (B : Nat) (w : World) (hn : n ≤ 1048576) (hc : n ≤ c) (hA : A = none → c = 0) (hm : ∀ i, (cel cs i).2.length ≤ 1048576) (hB : B ≤ w.heap.size) (hb : Cells w B A n cs) :
    Calls Tryz.prog 62 #[.slice A n c] w fun e w' => ∃ R ps b, e = .returned (.tuple #[.agg #[R.kv ps.length, R.vv ps.length], .bool b]) ∧ Below w.heap.size w w' ∧
      ((b = true ∧ Right cs ∧ NodesIs w' w.heap.size R ps cs) ∨ (b = false ∧ ¬ Right cs ∧ R = SR0 ∧ ps = [])) := by
  have mixed : Tryz.prog.follows .mixedOrders = true := by kernel_rfl
  have HB := Lib.hid (hb.more hB)
  have hlen := hb.1
  clear hb
  obtain ⟨w0, hw0⟩ : ∃ w0, (w.alloc (.cells #[.slice none 0 0, .slice none 0 0] 59)).alloc (.cells #[.slice none 0 0, .slice none 0 0] 59) = w0 := ⟨_, rfl⟩
  have x0 : Box w0 w.heap.size 59 #[.slice none 0 0, .slice none 0 0] := hw0 ▸ heap2_0 _ _ _
  have y0 : Box w0 (w.heap.size + 1) 59 #[.slice none 0 0, .slice none 0 0] := hw0 ▸ heap2_1 _ _ _
  have s0 : w0.heap.size = w.heap.size + 2 := hw0 ▸ size2 _ _ _
  have b0 : Below w.heap.size w w0 := hw0 ▸ below2 _ _ _
  have X0 := Lib.hid x0
  have Y0 := Lib.hid y0
  have B0 := Lib.hid b0
  clear x0 y0 b0
  by_cases hbig : 80 < n
  · have q20 := X0.out.cell 0
    have q21 := X0.out.cell 1
    have f20 := X0.out.free
    have y20 := Y0.out.cell 0
    have y21 := Y0.out.cell 1
    simp at q20 q21 y20 y21
    have s2 := set2 X0.out (.slice none 0 0) (.slice none 0 0)
    have S2 := Lib.hid s2
    clear s2
    go_enter Tryz.func62, Tryz.ntmps62
    go_wp2
    refine bodyPost_ret (v := .tuple #[.agg #[.slice none 0 0, .slice none 0 0], .bool false]) (results_box2 Tryz.results62 _ _ w.heap.size _ _ _ _ rfl rfl S2.out.1 Tryz.underlying59 rfl (by kernel_rfl)) rfl ?_
    exact ⟨SR0, [], false, rfl, B0.out.trans (S2.out.2.below B0.out.size (fun k hk e => by omega)), .inr ⟨rfl, fun h => by have := h.1; omega, rfl, rfl⟩⟩
  · go_enter Tryz.func62, Tryz.ntmps62
    go_wp2
    go_loopw [5, 16] (fun la i wr => ∃ (k : Nat) (R : SR) (ps : List (Int × NV)), k ≤ n ∧ i = .int .i64 k ∧ la = .int .i64 (lastC cs k) ∧ NodesIs wr w.heap.size R ps (cs.take k) ∧ Box wr (w.heap.size + 1) 59 #[R.kv ps.length, R.vv ps.length] ∧
      Box wr w.heap.size 59 #[.slice none 0 0, .slice none 0 0] ∧ (∀ y ∈ ps, ∀ g, NodeBlk y.2.v g → w.heap.size + 2 ≤ g) ∧ (∀ i, i < k → CellAt cs i) ∧ Below w.heap.size w wr) (fun _ i _ => n - (intOf i).toNat)
    case atStart =>
      exact ⟨0, SR0, [], Nat.zero_le _, rfl, rfl, ⟨SLN.nil _ _, by simp, fun i hi => by simp at hi, fun y hy => by simp at hy, fun y hy => by simp at hy⟩, Y0.out, X0.out, fun y hy => by simp at hy, fun i hi => by omega, B0.out⟩
    case round =>
      obtain ⟨k, R, ps, hk, rfl, rfl, hnd, hpb, hrb, hnp, hpre, hbel⟩ := hrel
      have hs0 := hbel.size
      have hps : ps.length = k := by have := hnd.len; rw [List.length_take] at this; omega
      have hp1 := hpb.lt
      have ND := Lib.hid hnd
      have PB := Lib.hid hpb
      have RB := Lib.hid hrb
      have NP := Lib.hid hnp
      have PRE := Lib.hid hpre
      have BR := Lib.hid hbel
      clear hnd hpb hrb hnp hpre hbel hw0
      by_cases hlt : k < n
      · obtain ⟨b, off, Ai, ni, ci, rfl, hbB, h0, h1, hci, hAi, hy⟩ := (HB.out.below BR.out).at_ hlt
        obtain ⟨z, hz⟩ : ∃ z, cel cs k = z := ⟨_, rfl⟩
        have hnm := hm k
        rw [hz] at h0 hy hnm
        have HZ := Lib.hid hz
        have hni := hy.1
        have Y := Lib.hid hy
        clear hy hz
        obtain ⟨w1, hw1⟩ : ∃ w1, wr.alloc (.cells #[.int .i64 z.1, .slice Ai ni ci] 87) = w1 := ⟨_, rfl⟩
        have b1 : Below wr.heap.size wr w1 := hw1 ▸ (Below.refl _ _).alloc (Nat.le_refl _) _
        have C1 := Lib.hid (show Box w1 wr.heap.size 87 #[.int .i64 z.1, .slice Ai ni ci] from hw1 ▸ heap_alloc_new _ _)
        have s1 : w1.heap.size = wr.heap.size + 1 := hw1 ▸ by simp
        have B1 := Lib.hid b1
        clear b1
        have c10 := C1.out.cell 0
        have c11 := C1.out.cell 1
        simp at c10 c11
        go_wp2_with fail
        clear c10 c11 hw1
        refine (named_any z.1 Ai ni ci z.2 w.heap.size w1 (by omega) hci hAi (by omega) (Y.out.below (B1.out.mono hs0))).mono ?_
        rintro e w2 ⟨v, nd, r, rfl, own, b2, hcase⟩
        have s2 := b2.size
        have O2 := Lib.hid own
        have B2 := Lib.hid b2
        have CASE := Lib.hid hcase
        obtain ⟨Ap, np, cp, Ak, nk, ck, rfl, _⟩ := own
        clear hcase b2
        obtain ⟨w3, hw3⟩ : ∃ w3, w2.alloc (.cells #[.int .i64 nd.kind, .slice Ap np cp, .slice Ak nk ck, .string nd.val] 134) = w3 := ⟨_, rfl⟩
        have b3 : Below w2.heap.size w2 w3 := hw3 ▸ (Below.refl _ _).alloc (Nat.le_refl _) _
        have N3 := Lib.hid (show Box w3 w2.heap.size 134 #[.int .i64 nd.kind, .slice Ap np cp, .slice Ak nk ck, .string nd.val] from hw3 ▸ heap_alloc_new _ _)
        have s3 : w3.heap.size = w2.heap.size + 1 := hw3 ▸ by simp
        have B03 := Lib.hid (B1.out.trans ((B2.out.trans (b3.mono s2)).mono (by omega)))
        have C3 := Lib.hid ((C1.out.below B2.out (by omega)).below b3 (by omega))
        have O3 := Lib.hid (O2.out.below b3)
        have R3 := Lib.hid (RB.out.below B03.out (by omega))
        have P3 := Lib.hid (PB.out.below B03.out (by omega))
        have D3 := Lib.hid (ND.out.below B03.out)
        have A3 := Lib.hid (BR.out.trans (B03.out.mono hs0))
        clear b3
        have c30 := C3.out.cell 0
        have c31 := C3.out.cell 1
        simp at c30 c31
        obtain ⟨la, hla⟩ : ∃ la, lastC cs k = la := ⟨_, rfl⟩
        have LA := Lib.hid hla
        rw [hla]
        clear hla
        cases r with
        | false =>
          have q0 := R3.out.cell 0
          have q1 := R3.out.cell 1
          have f0 := R3.out.free
          simp at q0 q1
          have hno : ¬ Right cs := (fun h => by
            rcases CASE.out with ⟨e, _⟩ | ⟨_, hn⟩
            · cases e
            · have h1 := (h.2 k (by omega)).1
              have h2 := (h.2 k (by omega)).2.1
              rw [HZ.out] at h1 h2
              exact hn ⟨h1, h2⟩)
          have HNO := Lib.hid hno
          have s2 := set2 R3.out (.slice none 0 0) (.slice none 0 0)
          have S2 := Lib.hid s2
          clear hno s2
          go_wp2
          refine bodyPost_ret (v := .tuple #[.agg #[.slice none 0 0, .slice none 0 0], .bool false]) (results_box2 Tryz.results62 _ _ w.heap.size _ _ _ _ rfl rfl S2.out.1 Tryz.underlying59 rfl (by kernel_rfl)) rfl ?_
          exact ⟨SR0, [], false, rfl, A3.out.trans (S2.out.2.below A3.out.size (fun k hk e => by omega)), .inr ⟨rfl, HNO.out, rfl, rfl⟩⟩
        | true =>
          have hyes : NodeRead z.2 nd true ∧ nameOf z.2 = z.1 := by
            rcases CASE.out with ⟨_, h⟩ | ⟨e, _⟩
            · exact h
            · cases e
          have RD := Lib.hid hyes.1
          have H1 := Lib.hid hyes.2
          clear hyes
          by_cases h2 : z.1 ≤ la
          · have hd2 : decide (z.1 ≤ la) = true := decide_eq_true h2
            have q0 := R3.out.cell 0
            have q1 := R3.out.cell 1
            have f0 := R3.out.free
            simp at q0 q1
            have hno : ¬ Right cs := (not_right_low cs k (by omega) (by rw [HZ.out, LA.out]; exact h2))
            have HNO := Lib.hid hno
            have s2 := set2 R3.out (.slice none 0 0) (.slice none 0 0)
            have S2 := Lib.hid s2
            clear hno s2
            go_wp2
            refine bodyPost_ret (v := .tuple #[.agg #[.slice none 0 0, .slice none 0 0], .bool false]) (results_box2 Tryz.results62 _ _ w.heap.size _ _ _ _ rfl rfl S2.out.1 Tryz.underlying59 rfl (by kernel_rfl)) rfl ?_
            exact ⟨SR0, [], false, rfl, A3.out.trans (S2.out.2.below A3.out.size (fun k hk e => by omega)), .inr ⟨rfl, HNO.out, rfl, rfl⟩⟩
          · have hd2 : decide (z.1 ≤ la) = false := decide_eq_false h2
            have c30 := C3.out.cell 0
            have n30 := N3.out.cell 0
            have n31 := N3.out.cell 1
            have n32 := N3.out.cell 2
            have n33 := N3.out.cell 3
            simp at c30 n30 n31 n32 n33
            have hrat : ∀ g, R.at_ g → g < wr.heap.size := fun g hg => (ND.out.sl.lt g hg).2
            have RAT := Lib.hid hrat
            have hblk : ∀ g, NodeBlk (⟨Ap, np, cp, Ak, nk, ck, nd⟩ : NV).v g → wr.heap.size < g := fun g hg => by have := (O2.out.blk hg).1; omega
            have BLK := Lib.hid hblk
            clear hrat hblk
            go_wp2_with fail
            refine (put_any (w.heap.size + 1) w.heap.size R ps z.1 ⟨Ap, np, cp, Ak, nk, ck, nd⟩ w3 P3.out D3.out.sl A3.out.size O3.out.node (fun g hg e => by have h1 := BLK.out g (NV.use_blk hg); have h2 := RAT.out g e; omega)
              (fun g hg => by have h1 := BLK.out g (NV.use_blk hg); omega) (fun y hy g hg => by have h1 := NP.out y hy g (NV.use_blk hg); omega) (by omega)).mono ?_
            have hlow := low_end (kvs ps) z.1 (kvs_rise_lt ND.out (by omega) (by rw [LA.out]; omega))
            rintro e w4 (⟨hh, _, _⟩ | ⟨_, rfl, R', pb, sl, hf, t4⟩)
            · rw [hlow.2] at hh; cases hh
            · rw [hlow.1, kvs_len, insP_end] at sl
              have hs4 := t4.size
              have hnb : ¬ R.at_ w.heap.size := D3.out.sl.not_at R3.out (by decide) (by decide)
              have C5 := Lib.hid (show Box w4 wr.heap.size 87 #[.int .i64 z.1, .slice Ai ni ci] from (t4.block _ (by omega) (fun e => e.elim (fun e => by omega) (fun e => by have := RAT.out _ e; omega))).trans C3.out)
              have R5 := Lib.hid (show Box w4 w.heap.size 59 #[.slice none 0 0, .slice none 0 0] from (t4.block _ (by omega) (fun e => e.elim (fun e => by omega) hnb)).trans R3.out)
              have A5 := Lib.hid (A3.out.trans (t4.below A3.out.size (fun g hg e => e.elim (fun e => by omega) (fun e => by have := (ND.out.sl.lt g e).1; omega))))
              have D5 := NodesIs.snoc (x := ⟨Ap, np, cp, Ak, nk, ck, nd⟩) D3.out (by omega) (O3.out.base (show w.heap.size ≤ w1.heap.size by omega)) (fun g hg e => by have h1 := BLK.out g hg; have h2 := RAT.out g e; omega) (fun y hy g hg => by have h1 := NP.out y hy g hg; omega) (fun g hg => by have h1 := BLK.out g hg; omega)
                (by rw [HZ.out]; exact RD.out) (by rw [HZ.out]; exact sl) hf t4
              rw [HZ.out] at D5
              have D5 := Lib.hid D5
              have P5 := Lib.hid pb
              clear c30 n30 n31 n32 n33 sl hf t4 pb hlow hnb
              have c50 := C5.out.cell 0
              simp at c50
              go_wp2
              go_roundw
              case rel =>
                refine ⟨k + 1, R', ps ++ [(z.1, ⟨Ap, np, cp, Ak, nk, ck, nd⟩)], by omega, by go_num, ?_, D5.out, by rw [List.length_append]; exact P5.out, R5.out, fun y hy g hg => ?_, fun i hi => ?_, A5.out⟩
                · unfold lastC; rw [if_neg (by omega), Nat.add_sub_cancel, HZ.out]
                · rcases List.mem_append.1 hy with hy | hy
                  · exact NP.out y hy g hg
                  · simp at hy; subst hy
                    have h1 := BLK.out g hg; omega
                · by_cases e : i = k
                  · subst e
                    refine ⟨by rw [HZ.out]; exact (IsNode.of RD.out).1 (by trivial), by rw [HZ.out]; exact H1.out, fun h0 => ?_⟩
                    have h5 := LA.out
                    unfold lastC at h5
                    rw [if_neg (by omega)] at h5
                    rw [HZ.out, h5]; omega
                  · exact PRE.out i (by omega)
              case measure => simp [intOf]; omega
      · obtain rfl : k = n := by omega
        rw [List.take_of_length_le (by omega)] at ND
        have p0 := PB.out.cell 0
        have p1 := PB.out.cell 1
        have q0 := RB.out.cell 0
        have q1 := RB.out.cell 1
        have f0 := RB.out.free
        unfold SR.kv at p0
        unfold SR.vv at p1
        rw [hps] at p0 p1
        simp at p0 p1 q0 q1
        have s2 := set2 RB.out (R.kv k) (R.vv k)
        unfold SR.kv SR.vv at s2
        have S2 := Lib.hid s2
        have hnb : ¬ R.at_ w.heap.size := ND.out.sl.not_at RB.out (by decide) (by decide)
        have NB := Lib.hid hnb
        clear s2 hnb
        go_wp2
        refine bodyPost_ret (v := .tuple #[.agg #[.slice R.Ak k R.ck, .slice R.Av k R.cv], .bool true]) (results_box2 Tryz.results62 _ _ w.heap.size _ _ _ _ rfl rfl S2.out.1 Tryz.underlying59 rfl (by kernel_rfl)) rfl ?_
        exact ⟨R, ps, true, by rw [hps]; rfl, BR.out.trans (S2.out.2.below hs0 (fun k hk e => by omega)), .inl ⟨rfl, ⟨by omega, fun i hi => PRE.out i (by omega)⟩, ND.out.touch S2.out.2 (fun g hg e => NB.out (e ▸ hg)) (fun y hy g hg e => by have := NP.out y hy g hg; omega)⟩⟩
end Go.Proofs.YtdhnhgppapkikaaGreatDoor

-- NodesL: Where a name stands in the list of nodes that is made of cells.
namespace Go.Proofs.YtdhnhgppapkikaaGreatDoor
set_option maxRecDepth 100000
set_option linter.unusedVariables false
set_option linter.unusedSimpArgs false
open Go.RowKit

/-- where a name stands in the list, as in the cells. -/
theorem NodesIs.find {w : World} {lo : Nat} {R : SR} {ps : List (Int × NV)} {cs : List (Int × List Int)} (h : NodesIs w lo R ps cs) (hr : Right cs) (m : Int) :
    (hitI (kvs ps) m = true → lowI (kvs ps) m < cs.length ∧ findC cs m = lowI (kvs ps) m) ∧ (hitI (kvs ps) m = false → ¬ findC cs m < cs.length) := by
  have key : ∀ i, i < ps.length → ps[i]?.getD (0, nv0) = (ps[i]?.getD (0, nv0)) := fun _ _ => rfl
  have hk : ∀ i (hi : i < ps.length), ps[i].1 = (cel cs i).1 := fun i hi => by
    have := (h.at_ i hi).1
    rw [List.getElem?_eq_getElem hi] at this
    exact this
  have hl := h.len
  refine ⟨fun ht => ?_, fun ht hf => ?_⟩
  · obtain ⟨hi, he⟩ := hit_parts ps m ht
    refine ⟨by omega, ?_⟩
    have := hr.find (lowI (kvs ps) m) (by omega)
    rw [← hk _ hi, he] at this
    exact this
  · have h1 := findC_is cs m hf
    have h2 := kvs_not ps m h.sl.rise ht
    refine h2 ?_
    rw [← h1, ← hk _ (by omega)]
    exact List.mem_map_of_mem (List.getElem_mem _)
end Go.Proofs.YtdhnhgppapkikaaGreatDoor
