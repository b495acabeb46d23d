/- Several texts in one, in build order: TurnM, TurnP, PutBox, DropBox, ChangeM, ChangeP, Closed, Form, ConcB, Bss, FrameM, L1B. -/
import Derived.Test.YtigdcmfmaehjfaaGreatPkK
import Derived.StillTailTactics
import Derived.Deep.RegionHeld3
import Derived.Laws.EntriesVeiled
import Derived.Deep.WholeRow
import Derived.Lib.AppendZerosOnto
import Derived.Lib.SliceRun
import Derived.Lib.Walk
import Derived.WalkKit
-- TurnM: What a change leaves of an open base, list by list. The program's withoutName.
namespace Go.Proofs.YtigdcmfmaehjfaaGreat
set_option maxRecDepth 100000
set_option linter.unusedVariables false
set_option linter.unusedSimpArgs false
open Go.RowKit

/-- what a change does to a sweep. -/
def turnOne (b : MBase) (c : MChg) : MBase :=
  if c.kind = 6 then { b with grey := b.grey ++ [c.name] }
  else if c.kind = 7 then { b with grey := b.grey.take (b.grey.length - 1) }
  else if c.kind = 2 then { b with black := lessL b.black c.name }
  else if c.kind = 8 then { b with black := intoL b.black c.name }
  else if c.kind = 9 then { b with phase := c.name }
  else if c.kind = 10 then { b with cursor := c.name }
  else if c.kind = 11 then { b with grey := [], black := [] }
  else b
/-- what a change does beside. -/
def changeTop (b : MBase) (c : MChg) : MBase :=
  if c.kind = 1 then { b with cells := addL b.cells c.name c.bytes }
  else if c.kind = 2 then { b with cells := lessC b.cells c.name }
  else if c.kind = 3 then { b with head := c.name }
  else if c.kind = 4 then { b with pins := intoL b.pins c.name }
  else if c.kind = 5 then { b with pins := lessL b.pins c.name }
  else b
theorem changeOne_turn (b : MBase) (c : MChg) : changeOne b c = turnOne (changeTop b c) c := by
  obtain ⟨k, m, bs⟩ := c
  by_cases h1 : k = 1
  · subst h1; rfl
  by_cases h2 : k = 2
  · subst h2; rfl
  by_cases h3 : k = 3
  · subst h3; rfl
  by_cases h4 : k = 4
  · subst h4; rfl
  by_cases h5 : k = 5
  · subst h5; rfl
  by_cases h6 : k = 6
  · subst h6; rfl
  by_cases h7 : k = 7
  · subst h7; rfl
  by_cases h8 : k = 8
  · subst h8; rfl
  by_cases h9 : k = 9
  · subst h9; rfl
  by_cases h10 : k = 10
  · subst h10; rfl
  by_cases h11 : k = 11
  · subst h11; rfl
  unfold changeOne turnOne changeTop
  simp [h1, h2, h3, h4, h5, h6, h7, h8, h9, h10, h11]
theorem NewI.drew {w w' : World} {lo : Nat} {A : Option Addr} {n c : Nat} {A' : Option Addr} {n' c' : Nat} {l' : List Int} (h : NewI w.drew w' lo A n c A' n' c' l') : NewI w w' lo A n c A' n' c' l' :=
  ⟨h.own, ⟨h.touch.os, h.touch.tape, h.touch.output, h.touch.size, fun k hk hS => h.touch.block k hk hS⟩, h.from_⟩
section
variable {w w' : World} {p lo : Nat} {L : OLay} {ps : List (Int × NV)} {b : MBase} {A : Option Addr} {n c : Nat} {l : List Int}
theorem OB.store {L' : OLay} {ps' : List (Int × NV)} {b' : MBase} {S : Nat → Prop} {k : Nat} {v : Value} (h : OB w p lo L ps b) (t : Touch S w w') (hS : ∀ g, S g → L.blk ps g) (ho : OwnO w' lo L' ps' b') (hf : ∀ g, L'.blk ps' g → L.blk ps g ∨ w.heap.size ≤ g)
    (hc : (L.cells ps.length b).setIfInBounds k v = L'.cells ps'.length b') : Moved w p lo L ps b' (w'.setCell ⟨p, k, none⟩ v) := by
  have hp := h.box.lt
  have t2 : Touch (fun g => g = p) w' (w'.setCell ⟨p, k, none⟩ v) := touch_set w' p k v rfl
  have hx : Box w' p 66 (L.cells ps.length b) := (t.block p hp (fun e => h.np (hS p e))).trans h.box
  have hnp : ¬ L'.blk ps' p := fun e => (hf p e).elim h.np (fun h1 => by omega)
  refine ⟨L', ps', ⟨ho.touch t2 (fun g hg e => hnp (e ▸ hg)), hc ▸ hx.set_ k v, hnp⟩, (t.mono (fun k hk => .inr (hS k hk))).trans (t2.mono (fun k hk => .inl hk)), hf⟩
theorem OB.at_ {S : Nat → Prop} (h : OB w p lo L ps b) (t : Touch S w w') (hS : ∀ g, S g → L.blk ps g) : Box w' p 66 (L.cells ps.length b) := (t.block p h.box.lt (fun e => h.np (hS p e))).trans h.box
theorem moved_grey (h : OB w p lo L ps b) (o : NewI w w' lo L.Ag L.ng L.cg A n c l) (hs : L.np + n + L.nb ≤ 1048576) :
    Box w' p 66 (L.cells ps.length b) ∧ Moved w p lo L ps { b with grey := l } (w'.setCell ⟨p, 5, none⟩ (.slice A n c)) := by
  have hS : ∀ g, (Value.slice L.Ag L.ng L.cg).ownBlock = some g → L.blk ps g := fun g hg => .inr (.inr (.inl hg))
  refine ⟨h.at_ o.touch hS, h.store o.touch hS (h.own.setGrey o hs) (fun g hg => ?_) rfl⟩
  rcases hg with hg | hg | hg | hg
  · exact .inl (.inl hg)
  · exact .inl (.inr (.inl hg))
  · exact (o.from_ g hg).imp (fun h => .inr (.inr (.inl h))) id
  · exact .inl (.inr (.inr (.inr hg)))
theorem moved_black (h : OB w p lo L ps b) (o : NewI w w' lo L.Ab L.nb L.cb A n c l) (hs : L.np + L.ng + n ≤ 1048576) :
    Box w' p 66 (L.cells ps.length b) ∧ Moved w p lo L ps { b with black := l } (w'.setCell ⟨p, 6, none⟩ (.slice A n c)) := by
  have hS : ∀ g, (Value.slice L.Ab L.nb L.cb).ownBlock = some g → L.blk ps g := fun g hg => .inr (.inr (.inr hg))
  refine ⟨h.at_ o.touch hS, h.store o.touch hS (h.own.setBlack o hs) (fun g hg => ?_) rfl⟩
  rcases hg with hg | hg | hg | hg
  · exact .inl (.inl hg)
  · exact .inl (.inr (.inl hg))
  · exact .inl (.inr (.inr (.inl hg)))
  · exact (o.from_ g hg).imp (fun h => .inr (.inr (.inr h))) id
theorem moved_pins (h : OB w p lo L ps b) (o : NewI w w' lo L.Ap L.np L.cp A n c l) (hs : n + L.ng + L.nb ≤ 1048576) :
    Box w' p 66 (L.cells ps.length b) ∧ Moved w p lo L ps { b with pins := l } (w'.setCell ⟨p, 3, none⟩ (.slice A n c)) := by
  have hS : ∀ g, (Value.slice L.Ap L.np L.cp).ownBlock = some g → L.blk ps g := fun g hg => .inr (.inl hg)
  refine ⟨h.at_ o.touch hS, h.store o.touch hS (h.own.setPins o hs) (fun g hg => ?_) rfl⟩
  rcases hg with hg | hg | hg | hg
  · exact .inl (.inl hg)
  · exact (o.from_ g hg).imp (fun h => .inr (.inl h)) id
  · exact .inl (.inr (.inr (.inl hg)))
  · exact .inl (.inr (.inr (.inr hg)))
theorem moved_head (h : OB w p lo L ps b) (m : Int) : Moved w p lo L ps { b with head := m } (w.setCell ⟨p, 2, none⟩ (.int .i64 m)) :=
  h.store (S := fun _ => False) (L' := L) (Touch.of_below (Below.refl _ _)) (fun _ e => e.elim) (h.own.withHead m) (fun g hg => .inl hg) rfl
theorem moved_phase (h : OB w p lo L ps b) (m : Int) : Moved w p lo L ps { b with phase := m } (w.setCell ⟨p, 4, none⟩ (.int .i64 m)) :=
  h.store (S := fun _ => False) (L' := L) (Touch.of_below (Below.refl _ _)) (fun _ e => e.elim) (h.own.withPhase m) (fun g hg => .inl hg) rfl
theorem moved_cursor (h : OB w p lo L ps b) (m : Int) : Moved w p lo L ps { b with cursor := m } (w.setCell ⟨p, 7, none⟩ (.int .i64 m)) :=
  h.store (S := fun _ => False) (L' := L) (Touch.of_below (Below.refl _ _)) (fun _ e => e.elim) (h.own.withCursor m) (fun g hg => .inl hg) rfl
theorem new_nil (w : World) (lo : Nat) (A : Option Addr) (n c : Nat) : NewI w w lo A n c none 0 0 [] := ⟨OwnI.nil _ _, Touch.of_below (Below.refl _ _), fun g hg => by simp [Value.ownBlock] at hg⟩
theorem moved_clear (h : OB w p lo L ps b) : Moved w p lo L ps { b with grey := [], black := [] } ((w.setCell ⟨p, 5, none⟩ (.slice none 0 0)).setCell ⟨p, 6, none⟩ (.slice none 0 0)) := by
  have hs := h.own.sum
  obtain ⟨L1, ps1, ob1, t1, f1⟩ := (moved_grey h (new_nil w lo L.Ag L.ng L.cg) (by omega)).2
  have hs1 := ob1.own.sum
  exact Moved.trans t1 f1 (moved_black ob1 (new_nil _ lo L1.Ab L1.nb L1.cb) (by omega)).2 h.box.lt
theorem Moved.up {w0 : World} {b' : MBase} (h : Moved w p lo L ps b' w') (hb : Below w0.heap.size w0 w) (hp : p < w0.heap.size) : Moved w0 p lo L ps b' w' :=
  Moved.trans (Touch.of_below hb) (fun g hg => .inl hg) h hp
theorem Moved.later {w'' : World} {b' : MBase} (h : Moved w p lo L ps b' w') (hb : Below w'.heap.size w' w'') : Moved w p lo L ps b' w'' := by
  obtain ⟨L', ps', ob, t, f⟩ := h
  exact ⟨L', ps', ob.below hb, t.trans (Touch.of_below hb), f⟩
end
theorem lessL_at (l : List Int) (m : Int) (h : RiseI l) (ht : hitI l m = true) : lessL l m = l.take (lowI l m) ++ l.drop (lowI l m + 1) := by
  unfold hitI at ht
  obtain ⟨h1, h2⟩ := of_decide_eq_true ht
  obtain ⟨i, hi⟩ : ∃ i, lowI l m = i := ⟨_, rfl⟩
  rw [hi] at h1 h2 ⊢
  rw [List.getElem?_eq_getElem h1] at h2
  have h2 : l[i] = m := h2
  have e : l = l.take i ++ l[i] :: l.drop (i + 1) := by rw [← List.drop_eq_getElem_cons h1, List.take_append_drop]
  have hp : (l.take i ++ l[i] :: l.drop (i + 1)).Pairwise (· < ·) := e ▸ h
  obtain ⟨hp1, hp2, hp3⟩ := List.pairwise_append.1 hp
  have hp4 := (List.pairwise_cons.1 hp2).1
  unfold lessL
  conv => lhs; rw [e]
  rw [List.filter_append, List.filter_cons]
  have e1 : (l.take i).filter (fun x => decide (x ≠ m)) = l.take i := List.filter_eq_self.2 (fun x hx => decide_eq_true (by have := hp3 x hx l[i] List.mem_cons_self; omega))
  have e2 : (l.drop (i + 1)).filter (fun x => decide (x ≠ m)) = l.drop (i + 1) := List.filter_eq_self.2 (fun x hx => decide_eq_true (by have := hp4 x hx; omega))
  rw [e1, e2, if_neg (by simp [h2])]
theorem lessL_none (l : List Int) (m : Int) (h : m ∉ l) : lessL l m = l := List.filter_eq_self.2 (fun x hx => decide_eq_true (fun e => h (e ▸ hx)))
set_option maxHeartbeats 1600000 in
theorem withoutName_any (A : Option Addr) (n c : Nat) (l : List Int) (m : Int) (lo : Nat) (w : World) (h : OwnI w lo A n c l) (hr : RiseI l) (hn : n ≤ 1048000) (hlo : lo ≤ w.heap.size) :
    Calls Tryz.prog 126 #[.slice A n c, .int .i64 m] w fun e w' => ∃ A' n' c', e = .returned (.slice A' n' c') ∧ NewI w w' lo A n c A' n' c' (lessL l m) := by
  have HO := Lib.hid h
  have hlen := h.len
  have hmem := hitI_mem l m hr
  have HM := Lib.hid hmem
  have LA := Lib.hid (lessL_at l m hr)
  have hlow : hitI l m = true → lowI l m < l.length := fun e => by unfold hitI at e; exact (of_decide_eq_true e).1
  have LW := Lib.hid hlow
  clear hmem hlow
  go_enter Tryz.func126, Tryz.ntmps126
  go_wp2_with fail
  refine (search_any A n c l m w.heap.size w (by omega) HO.out.ints hr).mono ?_
  rintro e w2 ⟨rfl, q, rfl⟩
  have B2 := Lib.hid (drewN_below w q)
  have O2 := Lib.hid (h.below B2.out)
  clear h hr
  obtain ⟨ht, hht⟩ : ∃ ht, hitI l m = ht := ⟨_, rfl⟩
  have HT := Lib.hid hht
  rw [hht]
  clear hht
  obtain ⟨i, hi⟩ : ∃ i, lowI l m = i := ⟨_, rfl⟩
  have II := Lib.hid hi
  rw [hi]
  clear hi
  cases ht with
  | false =>
    go_wp2
    go_ret
    refine ⟨_, _, _, rfl, ?_⟩
    rw [lessL_none l m (fun hm => by have := HM.out.2 hm; rw [HT.out] at this; cases this)]
    exact NewI.same HO.out B2.out
  | true =>
    have hil := LW.out HT.out
    rw [II.out] at hil
    obtain ⟨q', hq'⟩ : ∃ q', n = q' + 1 := ⟨n - 1, by omega⟩
    subst hq'
    obtain ⟨g, hg, _, hgl⟩ := HO.out.form (by omega)
    subst hg
    have hw1 : IntKind.i64.wrap ((i : Int) + 1) = (i : Int) + 1 := by rw [IntKind.wrap_i64]; omega
    have HLN := Lib.hid hlen
    have HIL := Lib.hid (show i ≤ q' by omega)
    clear hlen hil
    go_wp2_with fail
    refine (delI_any lo q' c i g (l.map (Value.int .i64)) (w.drewN q) O2.out HIL.out (by omega) (kvs_one _)).mono ?_
    rintro e w3 ⟨rfl, o3, gr3⟩
    have e3 : (l.map (Value.int .i64)).take (i * 1) ++ (l.map (Value.int .i64)).drop ((i + 1) * 1) = (lessL l m).map (Value.int .i64) := by
      rw [LA.out HT.out, II.out]
      simp [List.map_take, List.map_drop]
    rw [e3] at o3
    have NW : NewI w w3 lo (some ⟨g, 0, none⟩) (q' + 1) c (some ⟨g, 0, none⟩) q' c (lessL l m) :=
      ⟨o3, (Touch.of_below B2.out).trans ((Touch.of_grown gr3).mono (fun k hk => by injection hk with hk; subst hk; rfl)), fun g' hg' => .inl (by simp [Value.ownBlock] at hg' ⊢; exact hg')⟩
    have NW := Lib.hid NW
    clear o3 gr3 e3
    go_wp2
    go_ret
    exact ⟨_, _, _, rfl, NW.out⟩
end Go.Proofs.YtigdcmfmaehjfaaGreat

-- TurnP: The program does a change to a sweep: its turn.
namespace Go.Proofs.YtigdcmfmaehjfaaGreat
set_option maxRecDepth 100000
set_option linter.unusedVariables false
set_option linter.unusedSimpArgs false
open Go.RowKit

set_option maxHeartbeats 8000000 in
theorem turn_any (p lo : Nat) (L : OLay) (ps : List (Int × NV)) (b : MBase) (x : MChg) (A : Option Addr) (n c k : Nat) (w : World) (h : OB w p lo L ps b) (hm : MidOk k b) (hk : k ≤ 201) (hlo : lo ≤ w.heap.size) :
    Calls Tryz.prog 127 #[.pointer (some ⟨p, 4, none⟩), .agg #[.int .i64 x.kind, .int .i64 x.name, .slice A n c]] w fun e w' => e = .returned (.tuple #[]) ∧ Moved w p lo L ps (turnOne b x) w' := by
  obtain ⟨kd, m, xb⟩ := x
  simp only
  obtain ⟨w1, hw1⟩ : ∃ w1, w.alloc (.cells #[.int .i64 kd, .int .i64 m, .slice A n c] 75) = w1 := ⟨_, rfl⟩
  have b1 : Below w.heap.size w w1 := hw1 ▸ (Below.refl _ _).alloc (Nat.le_refl _) _
  have x1 : Box w1 w.heap.size 75 #[.int .i64 kd, .int .i64 m, .slice A n c] := hw1 ▸ heap_alloc_new _ _
  have s1 := b1.size
  have hp := h.box.lt
  have O1 := Lib.hid (h.below b1)
  have hlp : L.np ≤ 300 := by have := hm.np; have := h.own.pins.len; omega
  have hlg : L.ng ≤ 300 := by have := hm.ng; have := h.own.grey.len; omega
  have hlb : L.nb ≤ 300 := by have := hm.nb; have := h.own.black.len; omega
  have hgl := Lib.hid h.own.grey.len
  have RB := Lib.hid hm.black
  have UP := Lib.hid (fun (b' : MBase) (W : World) (hM : Moved w1 p lo L ps b' W) => (Moved.up hM b1 hp : Moved w p lo L ps b' W))
  have XL := Lib.hid x1.lt
  have q0 := x1.cell 0
  have q1 := x1.cell 1
  simp at q0 q1
  have c4 := O1.out.c 4
  have c5 := O1.out.c 5
  have c6 := O1.out.c 6
  have c7 := O1.out.c 7
  have pf := O1.out.box.free
  unfold OLay.cells at c4 c5 c6 c7
  simp at c4 c5 c6 c7
  have HLO := Lib.hid (Nat.le_trans hlo s1)
  have S1 := Lib.hid s1
  obtain ⟨i0, hi, hz0, hz1, hz2⟩ := info_parts Tryz.infoI
  have HI := Lib.hid hi
  have HZ0 := Lib.hid hz0
  have HZ1 := Lib.hid hz1
  have HZ2 := Lib.hid hz2
  clear hi hz0 hz1 hz2 x1 b1 hm s1 hlo
  go_enter Tryz.func127, Tryz.ntmps127
  by_cases h6 : kd = 6
  · subst h6
    go_wp2
    clear hw1
    have hrow := own_touch (S := fun _ => False) O1.out.own.grey (Touch.of_below (((Below.refl w1.heap.size w1).alloc (Nat.le_refl _) (.cells #[.int .i64 m] 2)).drew)) (fun _ _ h => h)
    have hps : p < w1.heap.size := by have := S1.out; omega
    go_region_law (first
      | (refine step_append_lies _ rfl _ _ 23 rfl lo 2 i0 (.int .i64 0) 1 8 Tryz.underlying23 HI.out HZ0.out HZ1.out HZ2.out rfl (by decide) (.slice L.Ag L.ng L.cg) L.ng (b.grey.map (Value.int .i64)) (by simp [Act.eval]) hrow ⟨w1.heap.size, 0, none⟩ 1 1 [.int .i64 m] (by simp [Act.eval]) rfl (by intro j u hj; match j, hj with | 0, hj => (simp at hj; subst hj; simp [Addr.add])) (by intro u hu; simp at hu; subst hu; rfl) (by first | omega | simp) (by unfold maxLen; omega) (by have := HLO.out; first | omega | (simp; omega)) (by have := HLO.out; simp; omega) _ rfl ?_
         intro g8 c8 w8 hown8 hgrow8 hwh8 hlt8
         have NW : NewI w1 w8 lo L.Ag L.ng L.cg (some ⟨g8, 0, none⟩) (L.ng + 1) c8 (b.grey ++ [m]) :=
           ⟨by unfold OwnI; rw [List.map_append]; exact hown8, (Touch.of_below (((Below.refl w1.heap.size w1).alloc (Nat.le_refl _) (.cells #[.int .i64 m] 2)).drew)).trans ((Touch.of_grown hgrow8).mono (fun k hk => hk.symm)), fun g hg => by
             simp [Value.ownBlock] at hg
             subst hg
             rcases hwh8 with e | e
             · exact .inl e
             · right; simp at e; omega⟩
         have PF := moved_grey O1.out NW (by omega)
         have p8 := PF.1.cell 5
         have f8 := PF.1.free 5
         unfold OLay.cells at p8
         simp at p8
         have PF := Lib.hid PF.2
         clear hown8 hgrow8 hwh8 hlt8 NW))
    all_goals
      clear p8 f8 hrow q0 q1 c4 c5 c6 c7
      go_wp2
      go_end0
      exact ⟨rfl, UP.out _ _ PF.out⟩
  by_cases h7 : kd = 7
  · subst h7
    obtain ⟨Ag, hAg⟩ : ∃ x, L.Ag = x := ⟨_, rfl⟩
    have AG := Lib.hid hAg
    rw [hAg] at c5
    clear hAg
    have hgn : OwnI w1 lo Ag L.ng L.cg b.grey := by have := O1.out.own.grey; rwa [AG.out] at this
    have GN := Lib.hid hgn
    rcases Nat.eq_zero_or_pos L.ng with h0 | h0
    · have hb0 : b.grey = [] := List.eq_nil_of_length_eq_zero (hgl.out.trans h0)
      have NW : NewI w1 w1 lo L.Ag L.ng L.cg L.Ag L.ng L.cg (b.grey.take (b.grey.length - 1)) := by
        have e : b.grey.take (b.grey.length - 1) = b.grey := by rw [hb0]; rfl
        rw [e]
        exact NewI.same O1.out.own.grey (Below.refl _ _)
      have PF := moved_grey O1.out NW (by omega)
      have PF := PF.2
      rw [AG.out, h0] at PF
      have PF := Lib.hid PF
      have hw0 : max (0 : Int) (IntKind.i64.wrap (-1)) = 0 := by decide
      have hw1' : IntKind.i64.wrap (-1) = -1 := by decide
      have hw2' : max (0 : Int) (-1) = 0 := by decide
      rw [h0] at c5
      rcases own_none hgn with ⟨rfl, _, hcz⟩ | ⟨g, rfl⟩
      · rw [hcz] at c5 PF
        clear hgn hcz h0 NW
        go_wp2
        clear hw1
        go_region_law (fail)
        all_goals
          clear q0 q1 c4 c5 c6 c7
          go_wp2
          go_end0
          exact ⟨rfl, UP.out _ _ (PF.out.later (Below.refl _ _).drew)⟩
      · clear hgn h0 NW
        go_wp2
        clear hw1
        go_region_law (fail)
        all_goals
          clear q0 q1 c4 c5 c6 c7
          go_wp2
          go_end0
          exact ⟨rfl, UP.out _ _ (PF.out.later (Below.refl _ _).drew)⟩
    · obtain ⟨q', hq'⟩ : ∃ q', L.ng = q' + 1 := ⟨L.ng - 1, by omega⟩
      obtain ⟨g, rfl, _, _⟩ := hgn.form h0
      have hsh : OwnI w1 lo (some ⟨g, 0, none⟩) q' L.cg (b.grey.take q') := by rw [hq'] at hgn; exact hgn.short
      have NW : NewI w1 w1 lo L.Ag L.ng L.cg (some ⟨g, 0, none⟩) q' L.cg (b.grey.take (b.grey.length - 1)) := by
        have e : b.grey.length - 1 = q' := by rw [hgl.out, hq']; rfl
        rw [e]
        exact ⟨hsh, Touch.of_below (Below.refl _ _), fun g' hg' => .inl (by rw [AG.out]; simp [Value.ownBlock] at hg' ⊢; exact hg')⟩
      have PF := Lib.hid (moved_grey O1.out NW (by omega)).2
      have hw0 : IntKind.i64.wrap (((q' + 1 : Nat) : Int) - 1) = (q' : Int) := by rw [IntKind.wrap_i64]; omega
      have hmx : max (0 : Int) (q' : Int) = (q' : Int) := by omega
      have hwq : IntKind.i64.wrap (q' : Int) = (q' : Int) := by rw [IntKind.wrap_i64]; omega
      have hqc : q' ≤ L.cg := by have := GN.out.cap_; omega
      have hcg : q' + 1 ≤ L.cg := by have := GN.out.cap_; omega
      rw [hq'] at c5
      have HQ := Lib.hid hq'
      clear hgn hsh NW h0 hq'
      go_wp2
      clear hw1
      go_region_law (fail)
      all_goals
        clear q0 q1 c4 c5 c6 c7
        go_wp2
        go_end0
        exact ⟨rfl, UP.out _ _ (PF.out.later (Below.refl _ _).drew)⟩
  by_cases h2 : kd = 2
  · subst h2
    go_wp2
    clear hw1
    go_region_law (first
      | (go_simp
         refine (withoutName_any L.Ab L.nb L.cb b.black m lo w1.drew (O1.out.own.black.below (Below.refl _ _).drew) RB.out (by omega) HLO.out).mono ?_
         rintro e w8 ⟨A8, n8, c8, rfl, nw⟩
         have hn8 := nw.own.len
         have hle := lessL_len b.black m
         have PF := moved_black O1.out nw.drew (by have := O1.out.own.black.len; omega)
         have p8 := PF.1.cell 6
         have f8 := PF.1.free 6
         unfold OLay.cells at p8
         simp at p8
         have PF := Lib.hid PF.2
         clear nw hn8 hle))
    all_goals
      clear p8 f8 q0 q1 c4 c5 c6 c7
      go_wp2
      go_end0
      exact ⟨rfl, UP.out _ _ PF.out⟩
  by_cases h8 : kd = 8
  · subst h8
    go_wp2
    clear hw1
    go_region_law (first
      | (go_simp
         refine (withName_any L.Ab L.nb L.cb b.black m lo w1.drew (O1.out.own.black.below (Below.refl _ _).drew) RB.out (by omega) HLO.out).mono ?_
         rintro e w8 ⟨A8, n8, c8, rfl, nw⟩
         have hn8 := nw.own.len
         have hle : (putI b.black m).length ≤ b.black.length + 1 := intoL_len b.black m
         have PF := moved_black O1.out nw.drew (by have := O1.out.own.black.len; omega)
         have p8 := PF.1.cell 6
         have f8 := PF.1.free 6
         unfold OLay.cells at p8
         simp at p8
         have PF := Lib.hid PF.2
         clear nw hn8 hle))
    all_goals
      clear p8 f8 q0 q1 c4 c5 c6 c7
      go_wp2
      go_end0
      exact ⟨rfl, UP.out _ _ PF.out⟩
  by_cases h9 : kd = 9
  · subst h9
    have PF := Lib.hid (moved_phase O1.out m)
    go_wp2
    clear hw1
    go_end0
    exact ⟨rfl, UP.out _ _ PF.out⟩
  by_cases h10 : kd = 10
  · subst h10
    have PF := Lib.hid (moved_cursor O1.out m)
    go_wp2
    clear hw1
    go_end0
    exact ⟨rfl, UP.out _ _ PF.out⟩
  by_cases h11 : kd = 11
  · subst h11
    have PF := Lib.hid (moved_clear O1.out)
    go_wp2
    clear hw1
    go_end0
    exact ⟨rfl, UP.out _ _ PF.out⟩
  have PF := Lib.hid (Moved.same O1.out (Below.refl _ _))
  have e : turnOne b ⟨kd, m, xb⟩ = b := by unfold turnOne; simp [h2, h6, h7, h8, h9, h10, h11]
  have k2 : (kd == 2) = false := by simpa using h2
  have k6 : (kd == 6) = false := by simpa using h6
  have k7 : (kd == 7) = false := by simpa using h7
  have k8 : (kd == 8) = false := by simpa using h8
  have k9 : (kd == 9) = false := by simpa using h9
  have k10 : (kd == 10) = false := by simpa using h10
  have k11 : (kd == 11) = false := by simpa using h11
  have E := Lib.hid e
  clear h2 h6 h7 h8 h9 h10 h11 e
  go_wp2
  clear hw1
  go_end0
  exact ⟨rfl, by rw [E.out]; exact UP.out _ _ PF.out⟩
end Go.Proofs.YtigdcmfmaehjfaaGreat

-- PutBox: The list of nodes, where it stands at the beginning of an open base: putting.
namespace Go.Proofs.YtigdcmfmaehjfaaGreat
set_option maxRecDepth 100000
set_option linter.unusedVariables false
set_option linter.unusedSimpArgs false
open Go.RowKit

/-- what a putting leaves, once both rows are made. -/
theorem putBox_fin (a b c d e0 f : Value) (p lo : Nat) (R : SR) (ps : List (Int × NV)) (m : Int) (x : NV) (w w5 w6 : World) (h : SLN w lo R ps) (hp : p < w.heap.size)
    (hn : NodeIn w w.heap.size x.v x.nd) (hu : ∀ g, x.use g → ¬ R.at_ g) (hup : ∀ g, x.use g → g ≠ p) (hpp : ∀ y ∈ ps, ∀ g, y.2.use g → g ≠ p) (hl : ps.length < 1000) (ht : hitI (kvs ps) m = false)
    (g4 c4 g6 c6 : Nat) (T5 : Touch (fun g => g = p ∨ R.at_ g) w w5)
    (P5 : Box w5 p 66 #[.slice (some ⟨g4, 0, none⟩) (ps.length + 1) c4, R.vv ps.length, a, b, c, d, e0, f])
    (K5 : OwnI w5 lo (some ⟨g4, 0, none⟩) (ps.length + 1) c4 (kvs (insP ps (lowI (kvs ps) m) (m, x)))) (G4 : R.at_ g4 ∨ w.heap.size ≤ g4)
    (V5 : w5.ownsRow lo 96 4 (R.vv ps.length) ps.length (nvs ps))
    (t6 : Touch (fun g => (R.vv ps.length).ownBlock = some g) w5 w6)
    (o6 : w6.ownsRow lo 96 4 (.slice (some ⟨g6, 0, none⟩) (ps.length + 1) c6) (ps.length + 1) (nvs (insP ps (lowI (kvs ps) m) (m, x)))) (G6 : R.at_ g6 ∨ w.heap.size ≤ g6) :
    Box w6 p 66 #[.slice (some ⟨g4, 0, none⟩) (ps.length + 1) c4, R.vv ps.length, a, b, c, d, e0, f] ∧
    ∃ R', Box (w6.setCell ⟨p, 1, none⟩ (.slice (some ⟨g6, 0, none⟩) (ps.length + 1) c6)) p 66 #[R'.kv (ps.length + 1), R'.vv (ps.length + 1), a, b, c, d, e0, f] ∧
      SLN (w6.setCell ⟨p, 1, none⟩ (.slice (some ⟨g6, 0, none⟩) (ps.length + 1) c6)) lo R' (insP ps (lowI (kvs ps) m) (m, x)) ∧ R'.from_ R w.heap.size ∧ Touch (fun g => g = p ∨ R.at_ g) w (w6.setCell ⟨p, 1, none⟩ (.slice (some ⟨g6, 0, none⟩) (ps.length + 1) c6)) := by
  have hvp : (R.vv ps.length).ownBlock ≠ some p := own_box_ne V5 P5 (by decide)
  have s5 := T5.size
  have P6 : Box w6 p 66 #[.slice (some ⟨g4, 0, none⟩) (ps.length + 1) c4, R.vv ps.length, a, b, c, d, e0, f] := (t6.block p (by omega) (fun e => hvp e)).trans P5
  have K6 := K5.touch t6 (fun g hg e => own_own_ne K5 V5 (by decide) g hg e)
  have g4p : g4 ≠ p := fun e => own_box_ne K6 P6 (by decide) (by rw [e]; rfl)
  have g6p : g6 ≠ p := fun e => own_box_ne o6 P6 (by decide) (by rw [e]; rfl)
  obtain ⟨w7, hw7⟩ : ∃ w7, w6.setCell ⟨p, 1, none⟩ (.slice (some ⟨g6, 0, none⟩) (ps.length + 1) c6) = w7 := ⟨_, rfl⟩
  have t7 : Touch (fun g => g = p) w6 w7 := by rw [← hw7]; exact touch_set w6 p 1 _ rfl
  have P7 : Box w7 p 66 #[.slice (some ⟨g4, 0, none⟩) (ps.length + 1) c4, .slice (some ⟨g6, 0, none⟩) (ps.length + 1) c6, a, b, c, d, e0, f] := by rw [← hw7]; exact P6.set_ 1 _
  have K7 := K6.touch t7 (fun g hg e => g4p (by have e2 : g4 = g := (by simpa [Value.ownBlock] using hg); omega))
  have O7 := own_touch o6 t7 (fun g hg e => g6p (by have e2 : g6 = g := (by simpa [Value.ownBlock] using hg); omega))
  rw [hw7]
  have T7 : Touch (fun g => g = p ∨ R.at_ g) w w7 := (T5.trans (t6.mono (fun k hk => .inr (R.vvAt _ _ hk)))).trans (t7.mono (fun k hk => .inl hk))
  have hfrom : (⟨some ⟨g4, 0, none⟩, c4, some ⟨g6, 0, none⟩, c6⟩ : SR).from_ R w.heap.size := fun g hg => by
    rcases hg with ⟨a, ha, e⟩ | ⟨a, ha, e⟩
    · cases ha; subst e; exact G4
    · cases ha; subst e; exact G6
  have hli := lowI_len ps m
  have hln : (insP ps (lowI (kvs ps) m) (m, x)).length = ps.length + 1 := insP_len _ _ _ hli
  have hnode : ∀ y ∈ insP ps (lowI (kvs ps) m) (m, x), NodeIn w w.heap.size y.2.v y.2.nd ∧ (∀ g, y.2.use g → ¬ (g = p ∨ R.at_ g)) := fun y hy => by
    rcases (insP_mem _ _ _ _).1 hy with rfl | hy
    · exact ⟨hn, fun g hg e => e.elim (hup g hg) (hu g hg)⟩
    · exact ⟨h.nodes y hy, fun g hg e => e.elim (hpp y hy g hg) (h.apart y hy g hg)⟩
  refine ⟨P6, ⟨some ⟨g4, 0, none⟩, c4, some ⟨g6, 0, none⟩, c6⟩, P7, ⟨by rw [hln]; exact K7, by rw [hln]; exact O7, fun y hy => ?_, fun y hy g hg e => ?_, ?_, by omega⟩, hfrom, T7⟩
  · exact (NV.touch (hnode y hy).1 T7 (Nat.le_refl _) (hnode y hy).2).more T7.size
  · rcases hfrom g e with e | e
    · exact (hnode y hy).2 g hg (.inr e)
    · have := NV.use_lt (hnode y hy).1 g hg
      omega
  · have hm := kvs_not ps m h.rise ht
    have e : kvs (insP ps (lowI (kvs ps) m) (m, x)) = insI (kvs ps) m := by rw [← insP_low _ _ hm]; exact insP_map _ _ _ _
    rw [e]
    exact insI_rise _ _ h.rise hm
set_option maxHeartbeats 2000000 in
theorem putBox_any (a b c d e0 f : Value) (p lo : Nat) (R : SR) (ps : List (Int × NV)) (m : Int) (x : NV) (w : World) (hx : Box w p 66 #[R.kv ps.length, R.vv ps.length, a, b, c, d, e0, f]) (h : SLN w lo R ps) (hlo : lo ≤ w.heap.size)
    (hn : NodeIn w w.heap.size x.v x.nd) (hu : ∀ g, x.use g → ¬ R.at_ g) (hup : ∀ g, x.use g → g ≠ p) (hpp : ∀ y ∈ ps, ∀ g, y.2.use g → g ≠ p) (hl : ps.length < 1000) :
    Calls Tryz.prog 106 #[.pointer (some ⟨p, 0, none⟩), .int .i64 m, x.v] w fun e w' =>
      (hitI (kvs ps) m = true ∧ e = .returned (.bool false) ∧ Below w.heap.size w w') ∨
      (hitI (kvs ps) m = false ∧ e = .returned (.bool true) ∧ ∃ R', Box w' p 66 #[R'.kv (ps.length + 1), R'.vv (ps.length + 1), a, b, c, d, e0, f] ∧ SLN w' lo R' (insP ps (lowI (kvs ps) m) (m, x)) ∧ R'.from_ R w.heap.size ∧ Touch (fun g => g = p ∨ R.at_ g) w w') := by
  have mixed : Tryz.prog.follows .mixedOrders = true := by kernel_rfl
  have hlen := h.len
  obtain ⟨Ap, np, cp, Ak, nk, ck, nd⟩ := x
  obtain ⟨w1, hw1⟩ : ∃ w1, w.alloc (.cells #[.int .i64 nd.kind, .slice Ap np cp, .slice Ak nk ck, .string nd.val] 96) = w1 := ⟨_, rfl⟩
  have x1 : Box w1 w.heap.size _ _ := hw1 ▸ heap_alloc_new _ _
  have s1 : w1.heap.size = w.heap.size + 1 := hw1 ▸ by simp
  have b1 : Below w.heap.size w w1 := hw1 ▸ (Below.refl _ _).alloc (Nat.le_refl _) _
  have hp := hx.lt
  have X1 := Lib.hid x1
  have B1 := Lib.hid b1
  have P1 := Lib.hid (hx.below b1 hp)
  have HS := Lib.hid (h.below b1)
  have H0 := Lib.hid h
  have N0 := Lib.hid hn
  have HN := Lib.hid (hn.below b1)
  have HRL := Lib.hid (fun g hg => (h.lt g hg).2)
  clear x1 b1 hx h hn
  have q0 := P1.out.cell 0
  have q1 := P1.out.cell 1
  unfold SR.kv at q0
  unfold SR.vv at q1
  simp at q0 q1
  unfold NV.v
  go_enter Tryz.func106, Tryz.ntmps106
  go_wp2_with fail
  refine (search_any R.Ak ps.length R.ck (kvs ps) m w1.heap.size w1 (by omega) HS.out.keys.ints HS.out.rise).mono ?_
  rintro e w2 ⟨rfl, nq, hq⟩
  have b2 : Below w1.heap.size w1 w2 := by rw [hq]; exact below_drewN (Below.refl _ _) nq
  have X2 := Lib.hid (X1.out.below b2 (by omega))
  have P2 := Lib.hid (P1.out.below b2 (by omega))
  have S2 := Lib.hid (HS.out.below b2)
  have N2 := Lib.hid (HN.out.below (b2.mono (by omega)))
  have B2 := Lib.hid (B1.out.trans (b2.mono (by omega)))
  have hs2 : w2.heap.size = w.heap.size + 1 := by rw [hq]; simpa using s1
  clear hq b2 hw1 q0 q1
  have q0 := P2.out.cell 0
  have q1 := P2.out.cell 1
  have p0 := P2.out.free
  unfold SR.kv at q0
  unfold SR.vv at q1
  simp at q0 q1
  obtain ⟨ht, hht⟩ : ∃ ht, hitI (kvs ps) m = ht := ⟨_, rfl⟩
  have HT := Lib.hid hht
  rw [hht]
  clear hht
  obtain ⟨i, hi⟩ : ∃ i, lowI (kvs ps) m = i := ⟨_, rfl⟩
  have hil : i ≤ ps.length := by rw [← hi]; exact lowI_len ps m
  have HI := Lib.hid hi
  rw [hi]
  clear hi
  cases ht with
  | true =>
    go_wp2
    go_ret
    exact .inl ⟨HT.out, rfl, B2.out⟩
  | false =>
    -- the key's own block
    obtain ⟨w3, hw3⟩ : ∃ w3, w2.alloc (.cells #[.int .i64 m] 2) = w3 := ⟨_, rfl⟩
    have b3 : Below w2.heap.size w2 w3 := hw3 ▸ (Below.refl w2.heap.size w2).alloc (Nat.le_refl _) _
    have y3 : Box w3 w2.heap.size 2 #[.int .i64 m] := hw3 ▸ heap_alloc_new _ _
    have s3 : w3.heap.size = w.heap.size + 2 := by rw [← hw3]; simp [hs2]
    rw [hs2] at y3
    have X3 := Lib.hid (X2.out.below b3 (by omega))
    have P3 := Lib.hid (P2.out.below b3 (by omega))
    have S3 := Lib.hid (S2.out.below b3)
    have N3 := Lib.hid (N2.out.below (b3.mono (by omega)))
    have B3 := Lib.hid (B2.out.trans (b3.mono (by omega)))
    have Y3 := Lib.hid y3
    clear b3 y3
    go_wp2_with fail
    refine (insI_any lo ps.length R.ck i (w.heap.size + 1) _ R.Ak ((kvs ps).map (Value.int .i64)) [.int .i64 m] w3 S3.out.keys (by omega) hil (by omega) Y3.out rfl (by intro u hu; simp at hu; subst hu; rfl) (kvs_one _) (fun e => by have := (S2.out.keys.lt _ e).2; omega)).mono ?_
    rintro e w4 ⟨g4, c4, rfl, o4, gr4, at4⟩
    rw [show ([.int .i64 m] : List Value) = [.int .i64 ((m, (⟨Ap, np, cp, Ak, nk, ck, nd⟩ : NV)) : Int × NV).1] from rfl, kvs_put] at o4
    have gk4 := gr4
    have gr4 : Touch (fun g => R.at_ g) w3 w4 := (Touch.of_grown gr4).mono (fun k hk => R.kvAt _ _ hk.symm)
    have kp : (R.kv ps.length).ownBlock ≠ some p := own_box_ne S3.out.keys P3.out (by decide)
    have np_ : ¬ R.at_ p := fun h => by
      rcases h with ⟨a, ha, e⟩ | ⟨a, ha, e⟩
      · exact kp (by unfold SR.kv; rw [ha, ← e]; rfl)
      · exact own_box_ne S3.out.vals P3.out (by decide) (by rw [ha, ← e]; rfl)
    have s4 : w3.heap.size ≤ w4.heap.size := gr4.size
    have P4 := Lib.hid (show Box w4 p _ _ from (gr4.block p (by omega) np_).trans P3.out)
    have X4 := Lib.hid (show Box w4 w.heap.size _ _ from (gr4.block _ (by omega) (fun h => by have := HRL.out _ h; omega)).trans X3.out)
    have V4 := Lib.hid (own_touch S3.out.vals (S := fun g => (R.kv ps.length).ownBlock = some g) ((Touch.of_grown (show w3.grownBy w4 (R.kv ps.length).ownBlock from gk4)).mono (fun k hk => hk.symm)) (fun g hg hk => own_own_ne S3.out.keys S3.out.vals (by decide) g hk hg))
    have V4p : (R.vv ps.length).ownBlock ≠ some p := own_box_ne V4.out P4.out (by decide)
    have K4 := Lib.hid (show OwnI w4 lo (some ⟨g4, 0, none⟩) (ps.length + 1) c4 _ from o4)
    have g4p : g4 ≠ p := fun e => own_box_ne o4 P4.out (by decide) (by rw [e]; rfl)
    have G4 := Lib.hid at4
    clear o4 gk4 at4 q0 q1 p0
    have f4 := P4.out.free
    have q4 := P4.out.cell 0
    simp at q4
    obtain ⟨w5, hw5⟩ : ∃ w5, w4.setCell ⟨p, 0, none⟩ (.slice (some ⟨g4, 0, none⟩) (ps.length + 1) c4) = w5 := ⟨_, rfl⟩
    have t5 : Touch (fun g => g = p) w4 w5 := by rw [← hw5]; exact touch_set w4 p 0 _ rfl
    have s5 : w5.heap.size = w4.heap.size := by rw [← hw5]; simp
    have P5 := Lib.hid (show Box w5 p _ #[.slice (some ⟨g4, 0, none⟩) (ps.length + 1) c4, R.vv ps.length, a, b, c, d, e0, f] from by rw [← hw5]; exact P4.out.set_ 0 _)
    have X5 := Lib.hid (show Box w5 w.heap.size _ _ from (t5.block _ (by omega) (by omega)).trans X4.out)
    have V5 := Lib.hid (own_touch V4.out t5 (fun g hg hk => V4p (by rw [← hk]; exact hg)))
    have K5 := Lib.hid (K4.out.touch t5 (fun g hg hk => g4p (by have e : g4 = g := (by simpa [Value.ownBlock] using hg); omega)))
    go_wp2_with fail
    clear f4 q4
    have q1 := P5.out.cell 1
    have f1 := P5.out.free
    have x0 := X5.out.cell 0
    have x1 := X5.out.cell 1
    have x2 := X5.out.cell 2
    have x3 := X5.out.cell 3
    unfold SR.vv at q1
    simp at q1 x0 x1 x2 x3
    have V6 := Lib.hid (show (w5.alloc (.cells #[.int .i64 nd.kind, .slice Ap np cp, .slice Ak nk ck, .string nd.val] 96)).drew.ownsRow lo 96 4 (.slice R.Av ps.length R.cv) ps.length (nvs ps) from V5.out.alloc _)
    have Y6 := Lib.hid (show (w5.alloc (.cells #[.int .i64 nd.kind, .slice Ap np cp, .slice Ak nk ck, .string nd.val] 96)).drew.heap[w4.heap.size]? = some (.cells ([.int .i64 nd.kind, .slice Ap np cp, .slice Ak nk ck, .string nd.val] : List Value).toArray 96 (0, 0)) from by rw [← s5]; exact heap_alloc_new w5 _)
    have Z6 := Lib.hid (show (w5.alloc (.cells #[.int .i64 nd.kind, .slice Ap np cp, .slice Ak nk ck, .string nd.val] 96)).drew.heap.size = w4.heap.size + 1 from by rw [← s5]; simp)
    have VB := Lib.hid (fun g hg => (V5.out.lt g hg).2)
    have T5 := Lib.hid (show Touch (fun g => g = p ∨ R.at_ g) w w5 from ((Touch.of_below B3.out).trans (gr4.mono (fun k hk => .inr hk))).trans (t5.mono (fun k hk => .inl hk)))
    clear gr4 t5
    have hp4 : p < w4.heap.size := by omega
    have hp5 : p < w5.heap.size := by omega
    have hpn : ¬ (p = w4.heap.size) := by omega
    go_region_law (first
      | (go_simp
         refine (insN_any lo ps.length R.cv i w4.heap.size _ R.Av (nvs ps) [.int .i64 nd.kind, .slice Ap np cp, .slice Ak nk ck, .string nd.val] _ V6.out (by rw [Z6.out]; omega) hil (by omega) Y6.out rfl (fun u hu => (⟨Ap, np, cp, Ak, nk, ck, nd⟩ : NV).one u hu) (nvs_one _) (fun e => by have := VB.out _ e; omega)).mono ?_
         rintro e w6 ⟨g6, c6, rfl, o6, gr6, at6⟩
         rw [show ([.int .i64 nd.kind, .slice Ap np cp, .slice Ak nk ck, .string nd.val] : List Value) = ((m, (⟨Ap, np, cp, Ak, nk, ck, nd⟩ : NV)) : Int × NV).2.cells from rfl, nvs_put, ← HI.out] at o6
         have PF := putBox_fin a b c d e0 f p lo R ps m ⟨Ap, np, cp, Ak, nk, ck, nd⟩ w w5 w6 H0.out hp N0.out hu hup hpp hl HT.out g4 c4 g6 c6 T5.out P5.out (by rw [HI.out]; exact K5.out) (G4.out.elim (fun e => .inl (R.kvAt _ _ e)) (fun e => .inr (by omega))) V5.out
           ((Touch.of_below (below_drewN (((Below.refl w5.heap.size w5).alloc (Nat.le_refl _) _)) 1)).trans ((Touch.of_grown gr6).mono (fun k hk => hk.symm))) o6 (at6.elim (fun e => .inl (R.vvAt _ _ e)) (fun e => .inr (by rw [Z6.out] at e; omega)))
         have q6 := PF.1.cell 1
         have f6 := PF.1.free 1
         simp at q6))
    all_goals
      have PF := Lib.hid PF.2
      clear q1 f1 x0 x1 x2 x3 q6 f6 o6 gr6 at6
      go_wp2
      go_ret
      exact .inr ⟨HT.out, rfl, PF.out⟩
end Go.Proofs.YtigdcmfmaehjfaaGreat

-- DropBox: The list of nodes, where it stands at the beginning of an open base: dropping.
namespace Go.Proofs.YtigdcmfmaehjfaaGreat
set_option maxRecDepth 100000
set_option linter.unusedVariables false
set_option linter.unusedSimpArgs false
open Go.RowKit

set_option maxHeartbeats 2000000 in
theorem dropBox_any (a b c d e0 f : Value) (p lo : Nat) (R : SR) (ps : List (Int × NV)) (m : Int) (w : World) (hx : Box w p 66 #[R.kv ps.length, R.vv ps.length, a, b, c, d, e0, f]) (h : SLN w lo R ps)
    (hpp : ∀ y ∈ ps, ∀ g, y.2.use g → g ≠ p) :
    Calls Tryz.prog 125 #[.pointer (some ⟨p, 0, none⟩), .int .i64 m] w fun e w' =>
      (hitI (kvs ps) m = false ∧ e = .returned (.bool false) ∧ Below w.heap.size w w') ∨
      (hitI (kvs ps) m = true ∧ e = .returned (.bool true) ∧ Box w' p 66 #[R.kv (ps.length - 1), R.vv (ps.length - 1), a, b, c, d, e0, f] ∧ SLN w' lo R (delP ps (lowI (kvs ps) m)) ∧ Touch (fun g => g = p ∨ R.at_ g) w w') := by
  have mixed : Tryz.prog.follows .mixedOrders = true := by kernel_rfl
  have hlen := h.len
  have hp := hx.lt
  have HS := Lib.hid h
  have P1 := Lib.hid hx
  clear hx h
  have q0 := P1.out.cell 0
  have q1 := P1.out.cell 1
  unfold SR.kv at q0
  unfold SR.vv at q1
  simp at q0 q1
  go_enter Tryz.func125, Tryz.ntmps125
  go_wp2_with fail
  refine (search_any R.Ak ps.length R.ck (kvs ps) m w.heap.size w (by omega) HS.out.keys.ints HS.out.rise).mono ?_
  rintro e w2 ⟨rfl, nq, hq⟩
  have b2 : Below w.heap.size w w2 := by rw [hq]; exact below_drewN (Below.refl _ _) nq
  have P2 := Lib.hid (P1.out.below b2 (by omega))
  have S2 := Lib.hid (HS.out.below b2)
  have B2 := Lib.hid b2
  have hs2 : w2.heap.size = w.heap.size := by rw [hq]; rfl
  clear hq b2 q0 q1
  have q0 := P2.out.cell 0
  have q1 := P2.out.cell 1
  have f2 := P2.out.free
  unfold SR.kv at q0
  unfold SR.vv at q1
  simp at q0 q1
  obtain ⟨ht, hht⟩ : ∃ ht, hitI (kvs ps) m = ht := ⟨_, rfl⟩
  have HT := Lib.hid hht
  rw [hht]
  clear hht
  cases ht with
  | false =>
    obtain ⟨i, hi⟩ : ∃ i, lowI (kvs ps) m = i := ⟨_, rfl⟩
    rw [hi]
    clear hi
    go_wp2
    go_ret
    exact .inl ⟨HT.out, rfl, B2.out⟩
  | true =>
    obtain ⟨hk, _⟩ := hit_parts ps m HT.out
    obtain ⟨i, hi⟩ : ∃ i, lowI (kvs ps) m = i := ⟨_, rfl⟩
    have HI := Lib.hid hi
    rw [hi] at hk ⊢
    clear hi
    obtain ⟨q, hq⟩ : ∃ q, ps.length = q + 1 := ⟨ps.length - 1, by omega⟩
    have hkeys := S2.out.keys
    have hvals := S2.out.vals
    have hcap := own_cap hkeys
    have hcapv := own_cap hvals
    obtain ⟨gk, hgk, _⟩ := S2.out.keys.form (by omega)
    obtain ⟨gv, hgv, _⟩ := S2.out.row (by omega)
    have hw1 : IntKind.i64.wrap ((i : Int) + 1) = (i : Int) + 1 := by rw [IntKind.wrap_i64]; omega
    rw [hgk, hq] at hkeys q0
    rw [hgv, hq] at hvals q1
    have VS := Lib.hid hvals
    have KS := Lib.hid hkeys
    clear hkeys hvals
    go_wp2_with fail
    refine (delI_any lo q R.ck i gk ((kvs ps).map (Value.int .i64)) w2 KS.out (by omega) (by omega) (kvs_one _)).mono ?_
    rintro e w3 ⟨rfl, o3, gr3⟩
    rw [kvs_del] at o3
    have t3 := Touch.of_grown gr3
    have gkp : gk ≠ p := fun e => own_box_ne KS.out P2.out (by decide) (by rw [e]; rfl)
    have gvp : gv ≠ p := fun e => own_box_ne VS.out P2.out (by decide) (by rw [e]; rfl)
    have gkv : gk ≠ gv := fun e => own_own_ne KS.out VS.out (by decide) gk rfl (by rw [e]; rfl)
    have p3 : Box w3 p 66 #[R.kv ps.length, R.vv ps.length, a, b, c, d, e0, f] := (t3.block p (by omega) (fun e => gkp (by injection e with e; omega))).trans P2.out
    have v3 := own_touch VS.out t3 (fun g hg e => gkv (by have e1 : gv = g := (by simpa [Value.ownBlock] using hg); injection e with e; omega))
    obtain ⟨w4, hw4⟩ : ∃ w4, w3.setCell ⟨p, 0, none⟩ (.slice (some ⟨gk, 0, none⟩) q R.ck) = w4 := ⟨_, rfl⟩
    have t4 : Touch (fun g => g = p) w3 w4 := by rw [← hw4]; exact touch_set w3 p 0 _ rfl
    have p4 : Box w4 p 66 #[.slice (some ⟨gk, 0, none⟩) q R.ck, R.vv ps.length, a, b, c, d, e0, f] := by rw [← hw4]; exact p3.set_ 0 _
    have k4 := own_touch o3 t4 (fun g hg e => gkp (by have e1 : gk = g := (by simpa [Value.ownBlock] using hg); omega))
    have v4 := own_touch v3 t4 (fun g hg e => gvp (by have e1 : gv = g := (by simpa [Value.ownBlock] using hg); omega))
    have c3 := p3.cell 0
    have f3 := p3.free
    have c4 := p4.cell 1
    have f4 := p4.free
    unfold SR.vv at c4
    rw [hgv, hq] at c4
    simp at c3 c4
    have T4 := Lib.hid ((t3.mono (T := fun g => g = p ∨ R.at_ g) (fun k hk => .inr (.inl ⟨_, hgk, by injection hk with hk; exact hk.symm⟩))).trans (t4.mono (fun k hk => .inl hk)))
    have V4 := Lib.hid v4
    have K4 := Lib.hid k4
    have P4 := Lib.hid p4
    clear o3 gr3 t3 t4 v4 k4 p4 p3 v3 q0 q1 f2
    go_wp2_with fail
    refine (delN_any lo q R.cv i gv (nvs ps) w4 V4.out (by omega) (by omega) (nvs_one _)).mono ?_
    rintro e w5 ⟨rfl, o5, gr5⟩
    rw [nvs_del] at o5
    have t5 := Touch.of_grown gr5
    have s4 : w2.heap.size ≤ w4.heap.size := T4.out.size
    have p5 : Box w5 p 66 #[.slice (some ⟨gk, 0, none⟩) q R.ck, R.vv ps.length, a, b, c, d, e0, f] := (t5.block p (by omega) (fun e => gvp (by injection e with e; omega))).trans P4.out
    have k5 := own_touch K4.out t5 (fun g hg e => gkv (by have e1 : gk = g := (by simpa [Value.ownBlock] using hg); injection e with e; omega))
    obtain ⟨w6, hw6⟩ : ∃ w6, w5.setCell ⟨p, 1, none⟩ (.slice (some ⟨gv, 0, none⟩) q R.cv) = w6 := ⟨_, rfl⟩
    have t6 : Touch (fun g => g = p) w5 w6 := by rw [← hw6]; exact touch_set w5 p 1 _ rfl
    have p6 : Box w6 p 66 #[.slice (some ⟨gk, 0, none⟩) q R.ck, .slice (some ⟨gv, 0, none⟩) q R.cv, a, b, c, d, e0, f] := by rw [← hw6]; exact p5.set_ 1 _
    have k6 := own_touch k5 t6 (fun g hg e => gkp (by have e1 : gk = g := (by simpa [Value.ownBlock] using hg); omega))
    have v6 := own_touch o5 t6 (fun g hg e => gvp (by have e1 : gv = g := (by simpa [Value.ownBlock] using hg); omega))
    have c5 := p5.cell 1
    have f5 := p5.free
    simp at c5
    have T6 : Touch (fun g => g = p ∨ R.at_ g) w w6 := (((Touch.of_below B2.out).trans T4.out).trans (t5.mono (fun k hk => .inr (.inr ⟨_, hgv, by injection hk with hk; exact hk.symm⟩)))).trans (t6.mono (fun k hk => .inl hk))
    have hdl : (delP ps i).length = q := by rw [delP_len ps i hk]; omega
    have hfin : Box w6 p 66 #[R.kv (ps.length - 1), R.vv (ps.length - 1), a, b, c, d, e0, f] ∧ SLN w6 lo R (delP ps i) ∧ Touch (fun g => g = p ∨ R.at_ g) w w6 := by
      have hq1 : ps.length - 1 = q := by omega
      refine ⟨by rw [hq1]; unfold SR.kv SR.vv; rw [hgk, hgv]; exact p6, ⟨by rw [hdl, hgk]; exact k6, by rw [hdl, hgv]; exact v6, fun y hy => ?_, fun y hy => HS.out.apart y (delP_mem _ _ _ hy), ?_, by omega⟩, T6⟩
      · have hy := delP_mem _ _ _ hy
        exact (NV.touch (HS.out.nodes y hy) T6 (Nat.le_refl _) (fun g hg e => e.elim (hpp y hy g hg) (HS.out.apart y hy g hg))).more T6.size
      · exact List.Pairwise.sublist ((delP_sub ps i).map _) HS.out.rise
    have HF := Lib.hid hfin
    clear o5 gr5 t5 t6 p5 k5 p6 k6 v6 T6 hfin c3 f3 c4 f4
    go_wp2
    go_ret
    refine .inr ⟨HT.out, rfl, ?_⟩
    rw [HI.out]
    exact HF.out
end Go.Proofs.YtigdcmfmaehjfaaGreat

-- ChangeM: The list of nodes that stands for cells, a node put or dropped. No statement of the program is proved here.
namespace Go.Proofs.YtigdcmfmaehjfaaGreat
set_option maxRecDepth 20000
set_option linter.unusedVariables false
set_option linter.unusedSimpArgs false
open Go.RowKit

/-- a node stands for a cell. -/
def Stands (y : Int × NV) (c : Int × List Int) : Prop := y.1 = c.1 ∧ NodeRead c.2 y.2.nd true
theorem stands_iff (ps : List (Int × NV)) (cs : List (Int × List Int)) (hl : ps.length = cs.length) :
    (∀ i, i < ps.length → (ps[i]?.getD (0, nv0)).1 = (cel cs i).1 ∧ NodeRead (cel cs i).2 (ps[i]?.getD (0, nv0)).2.nd true) ↔ ∀ (i : Nat) (y : Int × NV) (c : Int × List Int), ps[i]? = some y → cs[i]? = some c → Stands y c := by
  constructor
  · intro h i y c hy hc
    have hi := (List.getElem?_eq_some_iff.1 hy).1
    have := h i hi
    rw [hy] at this
    unfold cel at this
    rw [hc] at this
    exact this
  · intro h i hi
    have h1 := List.getElem?_eq_getElem hi
    have h2 := List.getElem?_eq_getElem (show i < cs.length by omega)
    have := h i _ _ h1 h2
    rw [h1]
    unfold cel
    rw [h2]
    exact this
theorem insP_get {α : Type} (l : List α) (i j : Nat) (q : α) (hi : i ≤ l.length) : (insP l i q)[j]? = if j < i then l[j]? else if j = i then some q else l[j - 1]? := by
  unfold insP
  by_cases h1 : j < i
  · rw [if_pos h1, List.getElem?_append_left (by simp; omega), List.getElem?_take, if_pos h1]
  · rw [if_neg h1, List.getElem?_append_right (by simp; omega)]
    have hl : (l.take i).length = i := by simp; omega
    rw [hl]
    by_cases h2 : j = i
    · subst h2; simp
    · rw [if_neg h2]
      obtain ⟨k, hk⟩ : ∃ k, j - i = k + 1 := ⟨j - i - 1, by omega⟩
      rw [hk, List.getElem?_cons_succ, List.getElem?_drop]
      congr 1; omega
theorem delP_get {α : Type} (l : List α) (i j : Nat) (hi : i < l.length) : (delP l i)[j]? = if j < i then l[j]? else l[j + 1]? := by
  unfold delP
  by_cases h1 : j < i
  · rw [if_pos h1, List.getElem?_append_left (by simp; omega), List.getElem?_take, if_pos h1]
  · rw [if_neg h1, List.getElem?_append_right (by simp; omega)]
    have hl : (l.take i).length = i := by simp; omega
    rw [hl, List.getElem?_drop]
    congr 1; omega
theorem stands_ins {ps : List (Int × NV)} {cs : List (Int × List Int)} (hl : ps.length = cs.length) (h : ∀ (i : Nat) (y : Int × NV) (c : Int × List Int), ps[i]? = some y → cs[i]? = some c → Stands y c) {i : Nat} (hi : i ≤ ps.length) {y : Int × NV} {c : Int × List Int} (hy : Stands y c) :
    ∀ (j : Nat) (u : Int × NV) (v : Int × List Int), (insP ps i y)[j]? = some u → (insP cs i c)[j]? = some v → Stands u v := by
  intro j u v hu hv
  rw [insP_get _ _ _ _ hi] at hu
  rw [insP_get _ _ _ _ (by omega)] at hv
  split at hu
  · rename_i h1
    rw [if_pos h1] at hv
    exact h j u v hu hv
  · rename_i h1
    rw [if_neg h1] at hv
    split at hu
    · rename_i h2
      rw [if_pos h2] at hv
      cases hu; cases hv
      exact hy
    · rename_i h2
      rw [if_neg h2] at hv
      exact h _ u v hu hv
theorem stands_del {ps : List (Int × NV)} {cs : List (Int × List Int)} (hl : ps.length = cs.length) (h : ∀ (i : Nat) (y : Int × NV) (c : Int × List Int), ps[i]? = some y → cs[i]? = some c → Stands y c) {i : Nat} (hi : i < ps.length) :
    ∀ (j : Nat) (u : Int × NV) (v : Int × List Int), (delP ps i)[j]? = some u → (delP cs i)[j]? = some v → Stands u v := by
  intro j u v hu hv
  rw [delP_get _ _ _ hi] at hu
  rw [delP_get _ _ _ (by omega)] at hv
  split at hu
  · rename_i h1
    rw [if_pos h1] at hv
    exact h j u v hu hv
  · rename_i h1
    rw [if_neg h1] at hv
    exact h _ u v hu hv
theorem lessC_del (cs : List (Int × List Int)) (m : Int) (i : Nat) (hr : Rise cs) (hi : i < cs.length) (hm : (cel cs i).1 = m) : lessC cs m = delP cs i := by
  unfold lessC delP
  conv => lhs; rw [← List.take_append_drop i cs]
  rw [List.drop_eq_getElem_cons hi, List.filter_append, List.filter_cons, if_neg (by rw [cel_get cs i hi]; simp [hm])]
  congr 1
  · refine List.filter_eq_self.2 fun c hc => ?_
    obtain ⟨j, hj, rfl⟩ := List.mem_iff_getElem.1 hc
    have hj2 : j < i := by simp at hj; omega
    rw [List.getElem_take, cel_get cs j (by omega)]
    have := hr j i hj2 hi
    exact decide_eq_true (by omega)
  · refine List.filter_eq_self.2 fun c hc => ?_
    obtain ⟨j, hj, rfl⟩ := List.mem_iff_getElem.1 hc
    have hj2 : i + 1 + j < cs.length := by simp at hj; omega
    rw [List.getElem_drop, cel_get cs _ hj2]
    have := hr i (i + 1 + j) (by omega) hj2
    exact decide_eq_true (by omega)
section
variable {w w' : World} {lo : Nat} {R R' : SR} {ps : List (Int × NV)} {cs : List (Int × List Int)} {m : Int}
theorem NodesIs.name (h : NodesIs w lo R ps cs) {i : Nat} (hi : i < ps.length) : ps[i].1 = (cel cs i).1 := by
  have := (h.at_ i hi).1
  rw [List.getElem?_eq_getElem hi] at this
  exact this
theorem NodesIs.find_hit (h : NodesIs w lo R ps cs) (m : Int) : hitI (kvs ps) m = true ↔ findC cs m < cs.length := by
  have hk : kvs ps = cs.map (·.1) := by
    apply List.ext_getElem
    · simp [kvs, h.len]
    · intro i h1 h2
      have hi : i < ps.length := by simpa [kvs] using h1
      have := h.name hi
      unfold cel at this
      rw [List.getElem?_eq_getElem (show i < cs.length by have := h.len; omega)] at this
      simpa [kvs] using this
  rw [hitI_mem _ _ h.sl.rise, hk]
  constructor
  · intro hm
    obtain ⟨c, hc, e⟩ := List.mem_map.1 hm
    have := List.findIdx_lt_length_of_exists (p := fun c => c.1 == m) ⟨c, hc, by simp [e]⟩
    exact this
  · intro hf
    have := findC_is cs m hf
    rw [← this]
    exact List.mem_map_of_mem (cel_mem cs _ hf)
/-- a node put where there was none of its name. -/
theorem NodesIs.ins {x : NV} {bs : List Int} {S : Nat → Prop} (h : NodesIs w lo R ps cs) (hsl : SLN w' lo R' (insP ps (lowI (kvs ps) m) (m, x))) (ht : hitI (kvs ps) m = false) (t : Touch S w w') (hS : ∀ y ∈ ps, ∀ g, NodeBlk y.2.v g → ¬ S g) (hxS : ∀ g, NodeBlk x.v g → ¬ S g)
    (hx : OwnN w lo x.v x.nd) (hr : NodeRead bs x.nd true) (hf : ∀ g, R'.at_ g → R.at_ g ∨ w.heap.size ≤ g) (hxR : ∀ g, NodeBlk x.v g → ¬ R.at_ g) : NodesIs w' lo R' (insP ps (lowI (kvs ps) m) (m, x)) (addL cs m bs) := by
  have hnf : ¬ findC cs m < cs.length := fun e => by rw [(h.find_hit m).2 e] at ht; cases ht
  have he : addL cs m bs = insP cs (lowI (kvs ps) m) (m, bs) := by
    unfold addL
    rw [if_neg hnf, ins_place ps cs m bs w lo R h ht]
  have hil := lowI_len ps m
  have hlen := h.len
  rw [he]
  have hl2 : (insP ps (lowI (kvs ps) m) (m, x)).length = (insP cs (lowI (kvs ps) m) (m, bs)).length := by rw [insP_len _ _ _ hil, insP_len _ _ _ (by omega), hlen]
  refine ⟨hsl, hl2, (stands_iff _ _ hl2).2 (stands_ins hlen ((stands_iff ps cs hlen).1 h.at_) hil ⟨rfl, hr⟩), fun y hy => ?_, fun y hy g hg e => ?_⟩
  · rcases (insP_mem _ _ _ _).1 hy with rfl | hy
    · exact hx.touch t hxS
    · exact (h.own y hy).touch t (hS y hy)
  · rcases (insP_mem _ _ _ _).1 hy with rfl | hy
    · rcases hf g e with e | e
      · exact hxR g hg e
      · have := (hx.blk hg).2; omega
    · rcases hf g e with e | e
      · exact h.blk y hy g hg e
      · have := ((h.own y hy).blk hg).2; omega
/-- a node dropped. -/
theorem NodesIs.del {S : Nat → Prop} (h : NodesIs w lo R ps cs) (hr : Rise cs) (hsl : SLN w' lo R (delP ps (lowI (kvs ps) m))) (ht : hitI (kvs ps) m = true) (t : Touch S w w') (hS : ∀ y ∈ ps, ∀ g, NodeBlk y.2.v g → ¬ S g) : NodesIs w' lo R (delP ps (lowI (kvs ps) m)) (lessC cs m) := by
  obtain ⟨hi, he⟩ := hit_parts ps m ht
  have hlen := h.len
  have e : lessC cs m = delP cs (lowI (kvs ps) m) := lessC_del cs m _ hr (by omega) (by rw [← h.name hi]; exact he)
  rw [e]
  have hl2 : (delP ps (lowI (kvs ps) m)).length = (delP cs (lowI (kvs ps) m)).length := by rw [delP_len _ _ hi, delP_len _ _ (by omega), hlen]
  exact ⟨hsl, hl2, (stands_iff _ _ hl2).2 (stands_del hlen ((stands_iff ps cs hlen).1 h.at_) hi), fun y hy => (h.own y (delP_mem _ _ _ hy)).touch t (hS y (delP_mem _ _ _ hy)), fun y hy => h.blk y (delP_mem _ _ _ hy)⟩
theorem lessC_none (h : ¬ findC cs m < cs.length) : lessC cs m = cs := less_none cs m h
end
/-- each is the bytes of a node under their name. -/
def EachOk (cs : List (Int × List Int)) : Prop := ∀ x, x ∈ cs → IsNode x.2 ∧ nameOf x.2 = x.1
theorem Right.each {cs : List (Int × List Int)} (h : Right cs) : EachOk cs := fun x hx => by
  obtain ⟨i, hi, rfl⟩ := List.mem_iff_getElem.1 hx
  have := h.2 i hi
  unfold CellAt cel at this
  rw [List.getElem?_eq_getElem hi] at this
  exact ⟨this.1, this.2.1⟩
theorem EachOk.sound {cs : List (Int × List Int)} (h : EachOk cs) (hr : Rise cs) : Sound cs := fun i hi => by
  have h1 := h (cel cs i) (cel_mem cs i hi)
  exact ⟨h1.1, h1.2, fun h0 => hr (i - 1) i (by omega) hi⟩
theorem Right.rise_ {cs : List (Int × List Int)} (h : Right cs) : Rise cs := fun i j h1 h2 => h.rise i j h1 h2
theorem EachOk.step {b : MBase} {c : MChg} (h : EachOk b.cells) (hc : ChgOk c) : EachOk (changeOne b c).cells := by
  unfold changeOne
  split
  · rename_i hk
    show EachOk (addL b.cells c.name c.bytes)
    rcases hc with ⟨hk1, _⟩ | ⟨_, hn, hm⟩
    · exact absurd hk hk1
    · unfold addL
      split
      · exact h
      · intro x hx
        unfold insC at hx
        rcases List.mem_append.1 hx with hx | hx
        · exact h x (List.mem_of_mem_take hx)
        · rcases List.mem_cons.1 hx with e | hx
          · rw [e]; exact ⟨hn, hm.symm⟩
          · exact h x (List.mem_of_mem_drop hx)
  · split
    · exact fun x hx => h x (List.mem_filter.1 hx).1
    · repeat (first | exact h | split)
end Go.Proofs.YtigdcmfmaehjfaaGreat

-- ChangeP: The program does a change to an open base: its change.
namespace Go.Proofs.YtigdcmfmaehjfaaGreat
set_option maxRecDepth 100000
set_option linter.unusedVariables false
set_option linter.unusedSimpArgs false
open Go.RowKit

theorem MidOk.top {k : Nat} {b : MBase} {c : MChg} (h : MidOk k b) (hb : c.bytes.length ≤ 1048576) : MidOk (k + 1) (changeTop b c) := by
  obtain ⟨h1, h2, h3, h4, h5, h6, h7, h8⟩ := h
  have a1 := addL_len b.cells c.name c.bytes
  have a2 := lessC_len b.cells c.name
  have a4 := lessL_len b.pins c.name
  have a5 := intoL_len b.pins c.name
  unfold changeTop
  split
  · exact ⟨addL_rise h1, addL_small h2 hb, h3, h4, by simp only; omega, by simp only; omega, by simp only; omega, by simp only; omega⟩
  split
  · exact ⟨lessC_rise h1, lessC_small h2, h3, h4, by simp only; omega, by simp only; omega, by simp only; omega, by simp only; omega⟩
  split
  · exact ⟨h1, h2, h3, h4, by simp only; omega, by simp only; omega, by simp only; omega, by simp only; omega⟩
  split
  · exact ⟨h1, h2, intoL_rise h3, h4, by simp only; omega, by simp only; omega, by simp only; omega, by simp only; omega⟩
  split
  · exact ⟨h1, h2, lessL_rise h3, h4, by simp only; omega, by simp only; omega, by simp only; omega, by simp only; omega⟩
  · exact ⟨h1, h2, h3, h4, by omega, by omega, by omega, by omega⟩
/-- a node is put among those of an open base. -/
theorem putO_any (p lo : Nat) (L : OLay) (ps : List (Int × NV)) (b : MBase) (m : Int) (x : NV) (bs : List Int) (w0 w : World) (h : OB w p lo L ps b) (hlo : lo ≤ w.heap.size) (hw : Below w0.heap.size w0 w) (hp : p < w0.heap.size) (hL : ∀ g, L.blk ps g → g < w0.heap.size) (hl : ps.length < 1000) (hx : OwnN w w0.heap.size x.v x.nd) (hlo0 : lo ≤ w0.heap.size) (hr : NodeRead bs x.nd true) :
    Calls Tryz.prog 106 #[.pointer (some ⟨p, 0, none⟩), .int .i64 m, x.v] w fun e w' => (∃ r, e = .returned (.bool r)) ∧ Moved w0 p lo L ps { b with cells := addL b.cells m bs } w' := by
  have hxb : ∀ g, NodeBlk x.v g → w0.heap.size ≤ g ∧ g < w.heap.size := fun g hg => hx.blk hg
  have hnb : ∀ y ∈ ps, ∀ g, NodeBlk y.2.v g → g ≠ p := fun y hy g hg e => h.np (e ▸ .inl (.inr ⟨y, hy, hg⟩))
  have hxR : ∀ g, NodeBlk x.v g → ¬ L.R.at_ g := fun g hg e => by have := hL g (.inl (.inl e)); have := (hxb g hg).1; omega
  refine (putBox_any _ _ _ _ _ _ p lo L.R ps m x w h.box h.own.nodes.sl hlo hx.node (fun g hg => hxR g (NV.use_blk hg)) (fun g hg e => by have := (hxb g (NV.use_blk hg)).1; omega) (fun y hy g hg => hnb y hy g (NV.use_blk hg)) hl).mono ?_
  rintro e w' (⟨ht, rfl, b'⟩ | ⟨ht, rfl, R', pb, sl, fr, t⟩)
  · refine ⟨⟨_, rfl⟩, ?_⟩
    have hf := (h.own.nodes.find_hit m).1 ht
    have e : addL b.cells m bs = b.cells := if_pos hf
    rw [e]
    exact ⟨L, ps, h.below b', (Touch.of_below hw).trans (Touch.of_below b'), fun g hg => .inl hg⟩
  · refine ⟨⟨_, rfl⟩, ?_⟩
    have hS : ∀ g, (g = p ∨ L.R.at_ g) → NBlk L.R ps g ∨ ¬ L.blk ps g := fun g hg => hg.elim (fun e => .inr (e ▸ h.np)) (fun e => .inl (.inl e))
    have hN := h.own.nodes.ins sl ht t (fun y hy g hg e => e.elim (hnb y hy g hg) (h.own.nodes.blk y hy g hg)) (fun g hg e => e.elim (fun e => by have := (hxb g hg).1; omega) (hxR g hg)) (hx.base hlo0) hr fr hxR
    have hfr : ∀ g, NBlk R' (insP ps (lowI (kvs ps) m) (m, x)) g → NBlk L.R ps g ∨ w0.heap.size ≤ g := fun g hg => by
      rcases hg with hg | ⟨y, hy, hg⟩
      · rcases fr g hg with e | e
        · exact .inl (.inl e)
        · have := hw.size; exact .inr (by omega)
      · rcases (insP_mem _ _ _ _).1 hy with rfl | hy
        · exact .inr (hxb g hg).1
        · exact .inl (.inr ⟨y, hy, hg⟩)
    have hO : OwnO w' lo ⟨R', L.Ap, L.np, L.cp, L.Ag, L.ng, L.cg, L.Ab, L.nb, L.cb⟩ (insP ps (lowI (kvs ps) m) (m, x)) { b with cells := addL b.cells m bs } :=
      ⟨hN, h.own.pins.touch t (fun g hg e => (hS g e).elim (h.own.pn g hg) (fun h1 => h1 (.inr (.inl hg)))), h.own.grey.touch t (fun g hg e => (hS g e).elim (h.own.gn g hg) (fun h1 => h1 (.inr (.inr (.inl hg))))), h.own.black.touch t (fun g hg e => (hS g e).elim (h.own.bn g hg) (fun h1 => h1 (.inr (.inr (.inr hg))))),
        fun g hg e => (hfr g e).elim (h.own.pn g hg) (fun h1 => by have := hL g (.inr (.inl hg)); omega), fun g hg e => (hfr g e).elim (h.own.gn g hg) (fun h1 => by have := hL g (.inr (.inr (.inl hg))); omega), fun g hg e => (hfr g e).elim (h.own.bn g hg) (fun h1 => by have := hL g (.inr (.inr (.inr hg))); omega), h.own.pg, h.own.pb, h.own.gb, h.own.sum⟩
    have hfb : ∀ g, OLay.blk ⟨R', L.Ap, L.np, L.cp, L.Ag, L.ng, L.cg, L.Ab, L.nb, L.cb⟩ (insP ps (lowI (kvs ps) m) (m, x)) g → L.blk ps g ∨ w0.heap.size ≤ g := fun g hg => by
      rcases hg with hg | hg | hg | hg
      · exact (hfr g hg).imp .inl id
      · exact .inl (.inr (.inl hg))
      · exact .inl (.inr (.inr (.inl hg)))
      · exact .inl (.inr (.inr (.inr hg)))
    have hln : (insP ps (lowI (kvs ps) m) (m, x)).length = ps.length + 1 := insP_len _ _ _ (lowI_len ps m)
    refine ⟨_, _, ⟨hO, ?_, fun e => (hfb p e).elim h.np (fun h1 => by omega)⟩, (Touch.of_below hw).trans (t.mono (fun g hg => hg.imp id (fun e => .inl (.inl e)))), hfb⟩
    rw [hln]
    exact pb
/-- a name is dropped among those of an open base. -/
theorem dropO_any (p lo : Nat) (L : OLay) (ps : List (Int × NV)) (b : MBase) (m : Int) (w : World) (h : OB w p lo L ps b) (hr : Rise b.cells) :
    Calls Tryz.prog 125 #[.pointer (some ⟨p, 0, none⟩), .int .i64 m] w fun e w' => (∃ r, e = .returned (.bool r)) ∧ Moved w p lo L ps { b with cells := lessC b.cells m } w' := by
  have hnb : ∀ y ∈ ps, ∀ g, NodeBlk y.2.v g → g ≠ p := fun y hy g hg e => h.np (e ▸ .inl (.inr ⟨y, hy, hg⟩))
  refine (dropBox_any _ _ _ _ _ _ p lo L.R ps m w h.box h.own.nodes.sl (fun y hy g hg => hnb y hy g (NV.use_blk hg))).mono ?_
  rintro e w' (⟨ht, rfl, b'⟩ | ⟨ht, rfl, pb, sl, t⟩)
  · refine ⟨⟨_, rfl⟩, ?_⟩
    have e : lessC b.cells m = b.cells := lessC_none (fun hf => by rw [(h.own.nodes.find_hit m).2 hf] at ht; cases ht)
    rw [e]
    exact Moved.same h b'
  · refine ⟨⟨_, rfl⟩, ?_⟩
    have hS : ∀ g, (g = p ∨ L.R.at_ g) → NBlk L.R ps g ∨ ¬ L.blk ps g := fun g hg => hg.elim (fun e => .inr (e ▸ h.np)) (fun e => .inl (.inl e))
    have hN := h.own.nodes.del hr sl ht t (fun y hy g hg e => e.elim (hnb y hy g hg) (h.own.nodes.blk y hy g hg))
    have hfr : ∀ g, NBlk L.R (delP ps (lowI (kvs ps) m)) g → NBlk L.R ps g ∨ w.heap.size ≤ g := fun g hg => .inl (hg.imp id (fun ⟨y, hy, hg⟩ => ⟨y, delP_mem _ _ _ hy, hg⟩))
    have hO := h.own.setNodes hN t hS hfr
    obtain ⟨hi, _⟩ := hit_parts ps m ht
    have hln : (delP ps (lowI (kvs ps) m)).length = ps.length - 1 := delP_len _ _ hi
    have hfb : ∀ g, OLay.blk ⟨L.R, L.Ap, L.np, L.cp, L.Ag, L.ng, L.cg, L.Ab, L.nb, L.cb⟩ (delP ps (lowI (kvs ps) m)) g → L.blk ps g ∨ w.heap.size ≤ g := fun g hg => by
      rcases hg with hg | hg | hg | hg
      · exact (hfr g hg).imp .inl id
      · exact .inl (.inr (.inl hg))
      · exact .inl (.inr (.inr (.inl hg)))
      · exact .inl (.inr (.inr (.inr hg)))
    refine ⟨_, _, ⟨hO, ?_, fun e => (hfb p e).elim h.np (fun h1 => by have := h.box.lt; omega)⟩, t.mono (fun g hg => hg.imp id (fun e => .inl (.inl e))), hfb⟩
    rw [hln]
    exact pb
set_option maxHeartbeats 8000000 in
theorem change_any (p lo : Nat) (L : OLay) (ps : List (Int × NV)) (b : MBase) (x : MChg) (A : Option Addr) (n c k B : Nat) (w : World) (h : OB w p lo L ps b) (hm : MidOk k b) (hk : k ≤ 200) (hx : ChgOk x) (hn : n ≤ 1048576) (hcn : n ≤ c) (hA : A = none → c = 0) (hlo : lo ≤ w.heap.size) (hB : B ≤ w.heap.size) (hb : Byts w B A n x.bytes) :
    Calls Tryz.prog 83 #[.pointer (some ⟨p, 0, none⟩), .agg #[.int .i64 x.kind, .int .i64 x.name, .slice A n c]] w fun e w' => e = .returned (.tuple #[]) ∧ Moved w p lo L ps (changeOne b x) w' := by
  have HX := Lib.hid hx
  obtain ⟨kd, m, xb⟩ := x
  simp only
  have hxl : xb.length = n := hb.1
  obtain ⟨w1, hw1⟩ : ∃ w1, w.alloc (.cells #[.int .i64 kd, .int .i64 m, .slice A n c] 75) = w1 := ⟨_, rfl⟩
  have b1 : Below w.heap.size w w1 := hw1 ▸ (Below.refl _ _).alloc (Nat.le_refl _) _
  have x1 : Box w1 w.heap.size 75 #[.int .i64 kd, .int .i64 m, .slice A n c] := hw1 ▸ heap_alloc_new _ _
  have s1 : w1.heap.size = w.heap.size + 1 := hw1 ▸ by simp
  have hp := h.box.lt
  have O1 := Lib.hid (h.below b1)
  have BL := Lib.hid (fun g (hg : L.blk ps g) => (h.own.blk_lt hg).2)
  have hlp : L.np ≤ 300 := by have := hm.np; have := h.own.pins.len; omega
  have hlg : L.ng ≤ 300 := by have := hm.ng; have := h.own.grey.len; omega
  have hlb : L.nb ≤ 300 := by have := hm.nb; have := h.own.black.len; omega
  have hps : ps.length < 1000 := by have := hm.n; have := h.own.nodes.len; omega
  have MT := Lib.hid (MidOk.top (c := ⟨kd, m, xb⟩) hm (by show xb.length ≤ _; omega))
  have RP := Lib.hid hm.pins
  have RC := Lib.hid hm.cells
  have LP := Lib.hid h.own.pins.len
  have UP := Lib.hid (fun (b' : MBase) (W : World) (hM : Moved w1 p lo L ps b' W) => (Moved.up hM b1 hp : Moved w p lo L ps b' W))
  have HBY := Lib.hid ((hb.more hB).below b1)
  have X1 := Lib.hid x1
  have q0 := x1.cell 0
  have q1 := x1.cell 1
  have q2 := x1.cell 2
  simp at q0 q1 q2
  have c2 := O1.out.c 2
  have c3 := O1.out.c 3
  have pf := O1.out.box.free
  unfold OLay.cells at c2 c3
  simp at c2 c3
  have HLO := Lib.hid hlo
  have S1 := Lib.hid s1
  have HXL := Lib.hid hxl
  -- the way into turn, once the rest is done
  have hT : ∀ W, Moved w1 p lo L ps (changeTop b ⟨kd, m, xb⟩) W → Calls Tryz.prog 127 #[.pointer (some ⟨p, 4, none⟩), .agg #[.int .i64 kd, .int .i64 m, .slice A n c]] W.drew fun e w' => e = .returned (.tuple #[]) ∧ Moved w p lo L ps (changeOne b ⟨kd, m, xb⟩) w' := fun W hM => by
    obtain ⟨L4, ps4, ob4, t4, f4⟩ := hM
    have hs4 := t4.size
    refine (turn_any p lo L4 ps4 _ ⟨kd, m, xb⟩ A n c (k + 1) W.drew (ob4.below (Below.refl _ _).drew) MT.out (by omega) (by have := HLO.out; have := S1.out; show lo ≤ W.heap.size; omega)).mono ?_
    rintro e w5 ⟨rfl, m5⟩
    refine ⟨rfl, ?_⟩
    rw [changeOne_turn]
    have hpw : p < W.heap.size := ob4.box.lt
    exact UP.out _ _ (Moved.trans t4 f4 (Moved.up (w0 := W) m5 (Below.refl _ _).drew hpw) (by have := S1.out; omega))
  have TT := Lib.hid hT
  have hXB : ∀ W, Touch (fun g => g = p ∨ L.blk ps g) w1 W → Box W w.heap.size 75 #[.int .i64 kd, .int .i64 m, .slice A n c] := fun W t => (t.block _ (by have := S1.out; omega) (fun e => e.elim (fun e => by omega) (fun e => by have := BL.out _ e; omega))).trans X1.out
  have XB := Lib.hid hXB
  clear x1 b1 hm s1 hlo hb hT hXB hx hxl
  go_enter Tryz.func83, Tryz.ntmps83
  by_cases h1 : kd = 1
  · subst h1
    have hcell := (show (∃ nd, NodeRead xb nd true) from HX.out.elim (fun h => absurd rfl h.1) (fun h => h.2.1))
    go_wp2_with fail
    clear hw1
    refine (implNodeFrom_any A n c xb w.heap.size w1 hn hcn hA (by have := S1.out; omega) HBY.out).mono ?_
    rintro e w2 ⟨v, nd, r, rfl, own, hread, b2⟩
    have hr : r = true := (IsNode.of hread).2 hcell
    subst hr
    have hown := own
    obtain ⟨Ap, np, cp, Ak, nk, ck, rfl, _⟩ := own
    have OWN := Lib.hid hown
    have HRD := Lib.hid hread
    have B2 := Lib.hid b2
    have s2 := b2.size
    clear hown hread b2 hcell q0 q1 q2 c2 c3 pf
    obtain ⟨w3, hw3⟩ : ∃ w3, w2.alloc (.cells #[.int .i64 nd.kind, .slice Ap np cp, .slice Ak nk ck, .string nd.val] 96) = w3 := ⟨_, rfl⟩
    have b3 : Below w2.heap.size w2 w3 := hw3 ▸ (Below.refl _ _).alloc (Nat.le_refl _) _
    have Y3 := Lib.hid (show Box w3 w2.heap.size 96 #[.int .i64 nd.kind, .slice Ap np cp, .slice Ak nk ck, .string nd.val] from hw3 ▸ heap_alloc_new _ _)
    have B3 := Lib.hid (B2.out.trans (b3.mono s2))
    have OWN3 := Lib.hid (OWN.out.below b3)
    have X3 := Lib.hid (X1.out.below B3.out X1.out.lt)
    have S3 := Lib.hid (show w1.heap.size ≤ w3.heap.size from B3.out.size)
    have q1 := X3.out.cell 1
    have y0 := Y3.out.cell 0
    have y1 := Y3.out.cell 1
    have y2 := Y3.out.cell 2
    have y3 := Y3.out.cell 3
    simp at q1 y0 y1 y2 y3
    clear b3 s2
    go_wp2
    clear hw3
    go_region_law (first
      | (go_simp
         refine (putO_any p lo L ps b m ⟨Ap, np, cp, Ak, nk, ck, nd⟩ xb w1 w3.drew (O1.out.below B3.out.drew) (by have := HLO.out; have := S1.out; have := S3.out; show lo ≤ w3.heap.size; omega) B3.out.drew (by have := S1.out; omega) (fun g hg => by have := BL.out g hg; have := S1.out; omega) hps (OWN3.out.below (Below.refl _ _).drew) (by have := HLO.out; have := S1.out; omega) HRD.out).mono ?_
         rintro e w4 ⟨⟨r4, rfl⟩, m4⟩
         have M4 := Lib.hid m4
         clear m4))
    all_goals
      have MV := Lib.hid (show Moved w1 p lo L ps (changeTop b ⟨1, m, xb⟩) w4 from M4.out)
      clear q1 y0 y1 y2 y3
      have XW := Lib.hid (XB.out w4 (by obtain ⟨_, _, _, t, _⟩ := MV.out; exact t))
      have x0 := XW.out.cell 0
      have x1 := XW.out.cell 1
      have x2 := XW.out.cell 2
      simp at x0 x1 x2
      go_wp2
      go_region_law (first
        | (go_simp
           refine (TT.out w4 MV.out).mono ?_
           rintro e w9 ⟨rfl, m9⟩
           have M9 := Lib.hid m9
           clear m9))
      all_goals
        clear x0 x1 x2
        go_wp2
        go_end0
        exact ⟨rfl, M9.out⟩
  by_cases h2 : kd = 2
  · subst h2
    go_wp2
    clear hw1
    go_region_law (first
      | (go_simp
         refine (dropO_any p lo L ps b m w1.drew (O1.out.below (Below.refl _ _).drew) RC.out).mono ?_
         rintro e w4 ⟨⟨r4, rfl⟩, m4⟩
         have M4 := Lib.hid (Moved.up (w0 := w1) m4 (Below.refl _ _).drew (by have := S1.out; omega))
         clear m4))
    all_goals
      have MV := Lib.hid (show Moved w1 p lo L ps (changeTop b ⟨2, m, xb⟩) w4 from M4.out)
      clear q0 q1 q2 c2 c3 pf
      have XW := Lib.hid (XB.out w4 (by obtain ⟨_, _, _, t, _⟩ := MV.out; exact t))
      have x0 := XW.out.cell 0
      have x1 := XW.out.cell 1
      have x2 := XW.out.cell 2
      simp at x0 x1 x2
      go_wp2
      go_region_law (first
        | (go_simp
           refine (TT.out w4 MV.out).mono ?_
           rintro e w9 ⟨rfl, m9⟩
           have M9 := Lib.hid m9
           clear m9))
      all_goals
        clear x0 x1 x2
        go_wp2
        go_end0
        exact ⟨rfl, M9.out⟩
  by_cases h3 : kd = 3
  · subst h3
    have M4 := Lib.hid (moved_head O1.out m)
    go_wp2
    clear hw1 q0 q1 q2 c2 c3 pf
    obtain ⟨w4, hw4⟩ : ∃ w4, w1.setCell ⟨p, 2, none⟩ (.int .i64 m) = w4 := ⟨_, rfl⟩
    have MV := Lib.hid (show Moved w1 p lo L ps (changeTop b ⟨3, m, xb⟩) w4 from hw4 ▸ M4.out)
    rw [hw4]
    clear M4 hw4
    have XW := Lib.hid (XB.out w4 (by obtain ⟨_, _, _, t, _⟩ := MV.out; exact t))
    have x0 := XW.out.cell 0
    have x1 := XW.out.cell 1
    have x2 := XW.out.cell 2
    simp at x0 x1 x2
    go_region_law (first
      | (go_simp
         refine (TT.out w4 MV.out).mono ?_
         rintro e w9 ⟨rfl, m9⟩
         have M9 := Lib.hid m9
         clear m9))
    all_goals
      clear x0 x1 x2
      go_wp2
      go_end0
      exact ⟨rfl, M9.out⟩
  by_cases h4 : kd = 4
  · subst h4
    go_wp2
    clear hw1
    go_region_law (first
      | (go_simp
         refine (withName_any L.Ap L.np L.cp b.pins m lo w1.drew (O1.out.own.pins.below (Below.refl _ _).drew) RP.out (by omega) (by have := HLO.out; have := S1.out; show lo ≤ w1.heap.size; omega)).mono ?_
         rintro e w8 ⟨A8, n8, c8, rfl, nw⟩
         have hn8 := nw.own.len
         have hle := intoL_len b.pins m
         have hsm := O1.out.own.sum
         have PF := moved_pins O1.out nw.drew (by have := LP.out; have e : (putI b.pins m).length = n8 := hn8; have hle2 : (putI b.pins m).length ≤ b.pins.length + 1 := (by first | exact hle | exact Nat.le_succ_of_le hle); omega)
         have p8 := PF.1.cell 3
         have f8 := PF.1.free 3
         unfold OLay.cells at p8
         simp at p8
         have PF := Lib.hid PF.2
         clear nw hn8 hle hsm))
    all_goals
      obtain ⟨w4, hw4⟩ : ∃ w4, w8.setCell ⟨p, 3, none⟩ (.slice A8 n8 c8) = w4 := ⟨_, rfl⟩
      have M4 := PF.out
      rw [hw4] at M4
      have MV := Lib.hid (show Moved w1 p lo L ps (changeTop b ⟨4, m, xb⟩) w4 from M4)
      try rw [hw4]
      clear M4 hw4 PF q0 q1 q2 c2 c3 pf p8 f8
      have XW := Lib.hid (XB.out w4 (by obtain ⟨_, _, _, t, _⟩ := MV.out; exact t))
      have x0 := XW.out.cell 0
      have x1 := XW.out.cell 1
      have x2 := XW.out.cell 2
      simp at x0 x1 x2
      go_wp2
      go_region_law (first
        | (go_simp
           refine (TT.out w4 MV.out).mono ?_
           rintro e w9 ⟨rfl, m9⟩
           have M9 := Lib.hid m9
           clear m9))
      all_goals
        clear x0 x1 x2
        go_wp2
        go_end0
        exact ⟨rfl, M9.out⟩
  by_cases h5 : kd = 5
  · subst h5
    go_wp2
    clear hw1
    go_region_law (first
      | (go_simp
         refine (withoutName_any L.Ap L.np L.cp b.pins m lo w1.drew (O1.out.own.pins.below (Below.refl _ _).drew) RP.out (by omega) (by have := HLO.out; have := S1.out; show lo ≤ w1.heap.size; omega)).mono ?_
         rintro e w8 ⟨A8, n8, c8, rfl, nw⟩
         have hn8 := nw.own.len
         have hle := lessL_len b.pins m
         have hsm := O1.out.own.sum
         have PF := moved_pins O1.out nw.drew (by have := LP.out; have e : (lessL b.pins m).length = n8 := hn8; have hle2 : (lessL b.pins m).length ≤ b.pins.length + 1 := (by first | exact hle | exact Nat.le_succ_of_le hle); omega)
         have p8 := PF.1.cell 3
         have f8 := PF.1.free 3
         unfold OLay.cells at p8
         simp at p8
         have PF := Lib.hid PF.2
         clear nw hn8 hle hsm))
    all_goals
      obtain ⟨w4, hw4⟩ : ∃ w4, w8.setCell ⟨p, 3, none⟩ (.slice A8 n8 c8) = w4 := ⟨_, rfl⟩
      have M4 := PF.out
      rw [hw4] at M4
      have MV := Lib.hid (show Moved w1 p lo L ps (changeTop b ⟨5, m, xb⟩) w4 from M4)
      try rw [hw4]
      clear M4 hw4 PF q0 q1 q2 c2 c3 pf p8 f8
      have XW := Lib.hid (XB.out w4 (by obtain ⟨_, _, _, t, _⟩ := MV.out; exact t))
      have x0 := XW.out.cell 0
      have x1 := XW.out.cell 1
      have x2 := XW.out.cell 2
      simp at x0 x1 x2
      go_wp2
      go_region_law (first
        | (go_simp
           refine (TT.out w4 MV.out).mono ?_
           rintro e w9 ⟨rfl, m9⟩
           have M9 := Lib.hid m9
           clear m9))
      all_goals
        clear x0 x1 x2
        go_wp2
        go_end0
        exact ⟨rfl, M9.out⟩
  have MV := Lib.hid (show Moved w1 p lo L ps (changeTop b ⟨kd, m, xb⟩) w1 from by
    have e : changeTop b ⟨kd, m, xb⟩ = b := by unfold changeTop; simp [h1, h2, h3, h4, h5]
    rw [e]
    exact Moved.same O1.out (Below.refl _ _))
  have k1 : (kd == 1) = false := by simpa using h1
  have k2 : (kd == 2) = false := by simpa using h2
  have k3 : (kd == 3) = false := by simpa using h3
  have k4 : (kd == 4) = false := by simpa using h4
  have k5 : (kd == 5) = false := by simpa using h5
  clear h1 h2 h3 h4 h5 q1 q2 c2 c3
  have XW := Lib.hid (XB.out w1 (by obtain ⟨_, _, _, t, _⟩ := MV.out; exact t))
  have x0 := XW.out.cell 0
  have x1 := XW.out.cell 1
  have x2 := XW.out.cell 2
  simp at x0 x1 x2
  go_wp2
  clear hw1
  go_region_law (first
    | (go_simp
       refine (TT.out w1 MV.out).mono ?_
       rintro e w9 ⟨rfl, m9⟩
       have M9 := Lib.hid m9
       clear m9))
  all_goals
    clear x0 x1 x2
    go_wp2
    go_end0
    exact ⟨rfl, M9.out⟩
end Go.Proofs.YtigdcmfmaehjfaaGreat

-- Closed: The program closes an open base: its closed.
namespace Go.Proofs.YtigdcmfmaehjfaaGreat
set_option maxRecDepth 100000
set_option linter.unusedVariables false
set_option linter.unusedSimpArgs false
open Go.RowKit

theorem own4 {w5 w6 w7 w8 : World} {lo : Nat} {b : MBase} {A5 A6 A7 A8 : Option Addr} {n5 c5 n6 c6 n7 c7 n8 c8 s5 : Nat} (hs5 : lo ≤ s5) (hl : lo ≤ w5.heap.size) (o5 : OwnC w5 s5 w5.heap.size A5 n5 c5 b.cells)
    (b6 : Below w5.heap.size w5 w6) (o6 : OwnI w6 w5.heap.size A6 n6 c6 b.pins) (b7 : Below w6.heap.size w6 w7) (o7 : OwnI w7 w6.heap.size A7 n7 c7 b.grey) (b8 : Below w7.heap.size w7 w8) (o8 : OwnI w8 w7.heap.size A8 n8 c8 b.black) :
    OwnBK w8 lo ⟨A5, n5, c5, A6, n6, c6, A7, n7, c7, A8, n8, c8⟩ b := by
  have z6 := b6.size
  have z7 := b7.size
  have z8 := b8.size
  have l6 := fun g hg => o6.lt g hg
  have l7 := fun g hg => o7.lt g hg
  have l8 := fun g hg => o8.lt g hg
  have b58 := b6.trans ((b7.trans (b8.mono z7)).mono z6)
  refine ⟨((o5.below b58).more b58.size).base hs5, (o6.base hl).below (b7.trans (b8.mono z7)), (o7.base (by omega)).below b8, o8.base (by omega), ?_, ?_, ?_⟩
  · intro g hg e; have := l6 g hg; have := l7 g e; omega
  · intro g hg e; have := l6 g hg; have := l8 g e; omega
  · intro g hg e; have := l7 g hg; have := l8 g e; omega
set_option maxHeartbeats 4000000 in
theorem closed_any (p lo : Nat) (L : OLay) (ps : List (Int × NV)) (b : MBase) (w : World) (ho : OpenIs w p lo L ps b) :
    Calls Tryz.prog 49 #[.pointer (some ⟨p, 0, none⟩)] w fun e w' => ∃ BL, e = .returned (BLay.v BL b) ∧ OwnBK w' w.heap.size BL b ∧ Below w.heap.size w w' := by
  have hp := ho.box.lt
  have hsum := ho.sum
  obtain ⟨w1, hw1⟩ : ∃ w1, w.alloc (.cells #[.slice none 0 0, .int .i64 0, .slice none 0 0, .int .i64 0, .slice none 0 0, .slice none 0 0, .int .i64 0] 30) = w1 := ⟨_, rfl⟩
  have b1 : Below w.heap.size w w1 := hw1 ▸ (Below.refl _ _).alloc (Nat.le_refl _) _
  have r1 : Box w1 w.heap.size 30 #[.slice none 0 0, .int .i64 0, .slice none 0 0, .int .i64 0, .slice none 0 0, .slice none 0 0, .int .i64 0] := hw1 ▸ heap_alloc_new _ _
  have s1 : w1.heap.size = w.heap.size + 1 := hw1 ▸ by simp
  have HO := Lib.hid ho
  have R1 := Lib.hid r1
  have B1 := Lib.hid b1
  have S1 := Lib.hid s1
  have TB := Lib.hid (fun W (t : Touch (fun g => g = w.heap.size) w1 W) => (b1.trans (t.below (by omega) (fun k hk e => by omega)) : Below w.heap.size w W))
  have hc : ∀ W, Touch (fun g => g = w.heap.size) w1 W → OpenIs W p lo L ps b := fun W t => HO.out.below (TB.out W t)
  have hc0 : ∀ W, Touch (fun g => g = w.heap.size) w1 W → W.cell? ⟨p, 0, none⟩ = some (.slice L.R.Ak ps.length L.R.ck) := fun W h => (hc W h).c0
  have hc1 : ∀ W, Touch (fun g => g = w.heap.size) w1 W → W.cell? ⟨p, 1, none⟩ = some (.slice L.R.Av ps.length L.R.cv) := fun W h => (hc W h).c1
  have hc2 : ∀ W, Touch (fun g => g = w.heap.size) w1 W → W.cell? ⟨p, 2, none⟩ = some (.int .i64 b.head) := fun W h => (hc W h).c2
  have hc3 : ∀ W, Touch (fun g => g = w.heap.size) w1 W → W.cell? ⟨p, 3, none⟩ = some (.slice L.Ap L.np L.cp) := fun W h => (hc W h).c3
  have hc4 : ∀ W, Touch (fun g => g = w.heap.size) w1 W → W.cell? ⟨p, 4, none⟩ = some (.int .i64 b.phase) := fun W h => (hc W h).c4
  have hc5 : ∀ W, Touch (fun g => g = w.heap.size) w1 W → W.cell? ⟨p, 5, none⟩ = some (.slice L.Ag L.ng L.cg) := fun W h => (hc W h).c5
  have hc6 : ∀ W, Touch (fun g => g = w.heap.size) w1 W → W.cell? ⟨p, 6, none⟩ = some (.slice L.Ab L.nb L.cb) := fun W h => (hc W h).c6
  have hc7 : ∀ W, Touch (fun g => g = w.heap.size) w1 W → W.cell? ⟨p, 7, none⟩ = some (.int .i64 b.cursor) := fun W h => (hc W h).c7
  have hCC : ∀ W, Touch (fun g => g = w.heap.size) w1 W → Calls Tryz.prog 81 #[.agg #[.slice L.R.Ak ps.length L.R.ck, .slice L.R.Av ps.length L.R.cv]] W fun e w' => ∃ A n c, e = .returned (.slice A n c) ∧ OwnC w' W.heap.size w'.heap.size A n c b.cells ∧ Below W.heap.size W w' :=
    fun W h => (hc W h).nodes.cells ▸ cellsOf_any lo L.R ps W (hc W h).nodes.sl
  have hCP : ∀ W, Touch (fun g => g = w.heap.size) w1 W → Calls Tryz.prog 72 #[.slice L.Ap L.np L.cp] W fun e w' => ∃ A' n' c', e = .returned (.slice A' n' c') ∧ OwnI w' W.heap.size A' n' c' b.pins ∧ Below W.heap.size W w' :=
    fun W h => clone_any L.Ap L.np L.cp b.pins W.heap.size W (by omega) (Nat.le_refl _) (hc W h).pins
  have hCG : ∀ W, Touch (fun g => g = w.heap.size) w1 W → Calls Tryz.prog 72 #[.slice L.Ag L.ng L.cg] W fun e w' => ∃ A' n' c', e = .returned (.slice A' n' c') ∧ OwnI w' W.heap.size A' n' c' b.grey ∧ Below W.heap.size W w' :=
    fun W h => clone_any L.Ag L.ng L.cg b.grey W.heap.size W (by omega) (Nat.le_refl _) (hc W h).grey
  have hCB : ∀ W, Touch (fun g => g = w.heap.size) w1 W → Calls Tryz.prog 72 #[.slice L.Ab L.nb L.cb] W fun e w' => ∃ A' n' c', e = .returned (.slice A' n' c') ∧ OwnI w' W.heap.size A' n' c' b.black ∧ Below W.heap.size W w' :=
    fun W h => clone_any L.Ab L.nb L.cb b.black W.heap.size W (by omega) (Nat.le_refl _) (hc W h).black
  have CC := Lib.hid hCC
  have CP := Lib.hid hCP
  have CG := Lib.hid hCG
  have CB := Lib.hid hCB
  have hrl : w.heap.size < w1.heap.size := by omega
  have HRL := Lib.hid hrl
  clear hCC hCP hCG hCB hc b1 r1 s1 ho hrl
  go_enter Tryz.func49, Tryz.ntmps49
  go_wp2
  clear hw1
  go_region_held3 (fun W => Touch (fun g => g = w.heap.size) w1 W) (first | with_reducible assumption | with_reducible exact Touch.of_below ((Below.refl _ _).drew) | (trace_state; fail))
    (first | (go_at_call 81
              refine (CC.out _ (by assumption)).mono ?_
              rintro e w5 ⟨A5, n5, c5, rfl, o5, b5⟩
              have h5 := (by assumption : Touch (fun g => g = w.heap.size) w1 _).trans (Touch.of_below b5)
              have X5 : Box w5 w.heap.size 30 #[.slice none 0 0, .int .i64 0, .slice none 0 0, .int .i64 0, .slice none 0 0, .slice none 0 0, .int .i64 0] := (b5.block _ HRL.out).trans R1.out
              have X5 := Lib.hid X5)
           | (go_at_call 72
              with_reducible refine (CP.out _ (by assumption)).mono ?_
              rintro e w6 ⟨A6, n6, c6, rfl, o6, b6⟩
              have h6 := (by assumption : Touch (fun g => g = w.heap.size) w1 _).trans (Touch.of_below b6)
              have X6 := Lib.hid (X5.out.below b6 X5.out.lt))
           | (go_at_call 72
              with_reducible refine (CG.out _ (by assumption)).mono ?_
              rintro e w7 ⟨A7, n7, c7, rfl, o7, b7⟩
              have h7 := (by assumption : Touch (fun g => g = w.heap.size) w1 _).trans (Touch.of_below b7)
              have X7 := Lib.hid (X6.out.below b7 X6.out.lt))
           | (go_at_call 72
              with_reducible refine (CB.out _ (by assumption)).mono ?_
              rintro e w8 ⟨A8, n8, c8, rfl, o8, b8⟩
              have h8 := (by assumption : Touch (fun g => g = w.heap.size) w1 _).trans (Touch.of_below b8)
              have X8 := Lib.hid (X7.out.below b8 X7.out.lt)
              have x0 := X8.out.cell 0
              have x1 := X8.out.cell 1
              have x2 := X8.out.cell 2
              have x3 := X8.out.cell 3
              have x4 := X8.out.cell 4
              have x5 := X8.out.cell 5
              have x6 := X8.out.cell 6
              have xf := X8.out.free
              simp at x0 x1 x2 x3 x4 x5 x6
              have h8k := h8.trans (touch7 w8 w.heap.size (.slice A5 n5 c5) (.int .i64 b.head) (.slice A6 n6 c6) (.int .i64 b.phase) (.slice A7 n7 c7) (.slice A8 n8 c8) (.int .i64 b.cursor))))
  have z := set7 X8.out (.slice A5 n5 c5) (.int .i64 b.head) (.slice A6 n6 c6) (.int .i64 b.phase) (.slice A7 n7 c7) (.slice A8 n8 c8) (.int .i64 b.cursor)
  have hok : OwnBK w8 w1.heap.size ⟨A5, n5, c5, A6, n6, c6, A7, n7, c7, A8, n8, c8⟩ b := own4 (Nat.le_refl _) (by have := b5.size; exact this) o5 b6 o6 b7 o7 b8 o8
  have OK := Lib.hid hok
  have H8 := Lib.hid h8
  have Z := Lib.hid z
  clear z hok h5 h6 h7 h8 hc0 hc1 hc2 hc3 hc4 hc5 hc6 hc7 x0 x1 x2 x3 x4 x5 x6 xf o5 o6 o7 o8 b5 b6 b7 b8
  go_wp2
  refine bodyPost_ret (v := .agg #[.slice A5 n5 c5, .int .i64 b.head, .slice A6 n6 c6, .int .i64 b.phase, .slice A7 n7 c7, .slice A8 n8 c8, .int .i64 b.cursor]) (results_cell_row Tryz.results49 _ _ w.heap.size _ _ _ _ rfl Z.out.1 Tryz.underlying30 rfl (by kernel_rfl)) rfl ?_
  refine ⟨⟨A5, n5, c5, A6, n6, c6, A7, n7, c7, A8, n8, c8⟩, rfl, (OK.out.touch Z.out.2 (fun g h1 h2 e => by have := S1.out; omega)).base (by have := S1.out; omega), TB.out _ (H8.out.trans Z.out.2)⟩
end Go.Proofs.YtigdcmfmaehjfaaGreat

-- Form: The program's table of the kinds of changes: what formOf answers.
namespace Go.Proofs.YtigdcmfmaehjfaaGreat
set_option maxRecDepth 100000
set_option linter.unusedVariables false
set_option linter.unusedSimpArgs false
open Go.RowKit

/-- the forms of a change, as values: none, that of a ChCell, that of a change with a name only. -/
def form0 : Value := .agg #[.nilFunc, .nilFunc, .nilFunc]
def formC : Value := .agg #[.func (.func 165) #[] #[], .func (.func 166) #[] #[], .func (.func 167) #[] #[]]
def formN : Value := .agg #[.func (.func 162) #[] #[], .func (.func 163) #[] #[], .func (.func 164) #[] #[]]
/-- the form of a kind. -/
def formFor (k : Int) : Value := if 1 ≤ k ∧ k ≤ 11 then (if k = 1 then formC else formN) else form0

theorem form_mid (w w2 w3 : World) (t : TypeId) (n0 n1 n2 m0 a0 a1 a2 : Value) (x2 : Box w2 w.heap.size t #[n0, n1, n2]) (y2 : Box w2 (w.heap.size + 1) t #[n0, n1, n2]) (hs : w2.heap.size = w.heap.size + 2) (hb : Below w.heap.size w w2)
    (hw : ((w2.setCell ⟨w.heap.size + 1, 0, none⟩ a0).setCell ⟨w.heap.size + 1, 1, none⟩ a1).setCell ⟨w.heap.size + 1, 2, none⟩ a2 = w3) :
    Box w3 w.heap.size t #[n0, n1, n2] ∧ Box w3 (w.heap.size + 1) t #[a0, a1, a2] ∧ w3.heap.size = w.heap.size + 2 ∧ Below w.heap.size w w3 := by
  subst hw
  have h1 := ((x2.other (g' := w.heap.size + 1) (by omega) 0 a0).other (g' := w.heap.size + 1) (by omega) 1 a1).other (g' := w.heap.size + 1) (by omega) 2 a2
  have h2 := ((y2.set_ 0 a0).set_ 1 a1).set_ 2 a2
  have t1 := (((touch_set (S := fun x => w.heap.size ≤ x) w2 (w.heap.size + 1) 0 a0 (Nat.le_succ _)).trans (touch_set _ (w.heap.size + 1) 1 a1 (Nat.le_succ _))).trans (touch_set _ (w.heap.size + 1) 2 a2 (Nat.le_succ _)))
  exact ⟨h1, by simpa using h2, by simpa using hs, hb.trans (t1.below (by omega) (fun k hk h => by omega))⟩
theorem form_end2 (w w4 : World) (t : TypeId) (n0 n1 n2 b0 b1 b2 : Value) (x4 : Box w4 w.heap.size t #[n0, n1, n2]) (hb : Below w.heap.size w w4) :
    Box (((w4.setCell ⟨w.heap.size, 0, none⟩ b0).setCell ⟨w.heap.size, 1, none⟩ b1).setCell ⟨w.heap.size, 2, none⟩ b2) w.heap.size t #[b0, b1, b2] ∧
      Below w.heap.size w (((w4.setCell ⟨w.heap.size, 0, none⟩ b0).setCell ⟨w.heap.size, 1, none⟩ b1).setCell ⟨w.heap.size, 2, none⟩ b2) := by
  have h3 := ((x4.set_ 0 b0).set_ 1 b1).set_ 2 b2
  have t2 := (((touch_set (S := fun x => w.heap.size ≤ x) w4 w.heap.size 0 b0 (Nat.le_refl _)).trans (touch_set _ w.heap.size 1 b1 (Nat.le_refl _))).trans (touch_set _ w.heap.size 2 b2 (Nat.le_refl _)))
  exact ⟨by simpa using h3, hb.trans (t2.below hb.size (fun k hk h => by omega))⟩

set_option maxHeartbeats 4000000 in
theorem formOf_cell (k : Int) (h1 : k = 1) (w : World) :
    Calls Tryz.prog 123 #[.int .i64 k] w fun e w' => e = .returned (.tuple #[formC, .bool true]) ∧ Below w.heap.size w w' := by
  have d1 : decide (k < 1) = false := decide_eq_false (by omega)
  have d2 : decide (11 < k) = false := decide_eq_false (by omega)
  have d3 : decide (k < 0) = false := decide_eq_false (by omega)
  have d4 : ¬ k < 0 := by omega
  have l0 : (#[.nilFunc, .nilFunc, .nilFunc, .func (.func 165) #[] #[], .func (.func 166) #[] #[], .func (.func 167) #[] #[], .func (.func 162) #[] #[], .func (.func 163) #[] #[], .func (.func 164) #[] #[], .func (.func 162) #[] #[], .func (.func 163) #[] #[], .func (.func 164) #[] #[], .func (.func 162) #[] #[], .func (.func 163) #[] #[], .func (.func 164) #[] #[], .func (.func 162) #[] #[], .func (.func 163) #[] #[], .func (.func 164) #[] #[], .func (.func 162) #[] #[], .func (.func 163) #[] #[], .func (.func 164) #[] #[], .func (.func 162) #[] #[], .func (.func 163) #[] #[], .func (.func 164) #[] #[], .func (.func 162) #[] #[], .func (.func 163) #[] #[], .func (.func 164) #[] #[], .func (.func 162) #[] #[], .func (.func 163) #[] #[], .func (.func 164) #[] #[], .func (.func 162) #[] #[], .func (.func 163) #[] #[], .func (.func 164) #[] #[], .func (.func 162) #[] #[], .func (.func 163) #[] #[], .func (.func 164) #[] #[]] : Array Value)[k.toNat * 3]? = some (.func (.func 165) #[] #[]) := by
    subst h1; rfl
  have l1 : (#[.nilFunc, .nilFunc, .nilFunc, .func (.func 165) #[] #[], .func (.func 166) #[] #[], .func (.func 167) #[] #[], .func (.func 162) #[] #[], .func (.func 163) #[] #[], .func (.func 164) #[] #[], .func (.func 162) #[] #[], .func (.func 163) #[] #[], .func (.func 164) #[] #[], .func (.func 162) #[] #[], .func (.func 163) #[] #[], .func (.func 164) #[] #[], .func (.func 162) #[] #[], .func (.func 163) #[] #[], .func (.func 164) #[] #[], .func (.func 162) #[] #[], .func (.func 163) #[] #[], .func (.func 164) #[] #[], .func (.func 162) #[] #[], .func (.func 163) #[] #[], .func (.func 164) #[] #[], .func (.func 162) #[] #[], .func (.func 163) #[] #[], .func (.func 164) #[] #[], .func (.func 162) #[] #[], .func (.func 163) #[] #[], .func (.func 164) #[] #[], .func (.func 162) #[] #[], .func (.func 163) #[] #[], .func (.func 164) #[] #[], .func (.func 162) #[] #[], .func (.func 163) #[] #[], .func (.func 164) #[] #[]] : Array Value)[k.toNat * 3 + 1]? = some (.func (.func 166) #[] #[]) := by
    subst h1; rfl
  have l2 : (#[.nilFunc, .nilFunc, .nilFunc, .func (.func 165) #[] #[], .func (.func 166) #[] #[], .func (.func 167) #[] #[], .func (.func 162) #[] #[], .func (.func 163) #[] #[], .func (.func 164) #[] #[], .func (.func 162) #[] #[], .func (.func 163) #[] #[], .func (.func 164) #[] #[], .func (.func 162) #[] #[], .func (.func 163) #[] #[], .func (.func 164) #[] #[], .func (.func 162) #[] #[], .func (.func 163) #[] #[], .func (.func 164) #[] #[], .func (.func 162) #[] #[], .func (.func 163) #[] #[], .func (.func 164) #[] #[], .func (.func 162) #[] #[], .func (.func 163) #[] #[], .func (.func 164) #[] #[], .func (.func 162) #[] #[], .func (.func 163) #[] #[], .func (.func 164) #[] #[], .func (.func 162) #[] #[], .func (.func 163) #[] #[], .func (.func 164) #[] #[], .func (.func 162) #[] #[], .func (.func 163) #[] #[], .func (.func 164) #[] #[], .func (.func 162) #[] #[], .func (.func 163) #[] #[], .func (.func 164) #[] #[]] : Array Value)[k.toNat * 3 + 2]? = some (.func (.func 167) #[] #[]) := by
    subst h1; rfl
  have h1a : 1 ≤ k := by omega
  have h1b : k ≤ 11 := by omega
  clear h1
  obtain ⟨w2, hw2⟩ : ∃ w2, (w.alloc (.cells #[.nilFunc, .nilFunc, .nilFunc] 168)).alloc (.cells #[.nilFunc, .nilFunc, .nilFunc] 168) = w2 := ⟨_, rfl⟩
  have x2 : Box w2 w.heap.size 168 #[.nilFunc, .nilFunc, .nilFunc] := hw2 ▸ heap2_0 _ _ _
  have y2 : Box w2 (w.heap.size + 1) 168 #[.nilFunc, .nilFunc, .nilFunc] := hw2 ▸ heap2_1 _ _ _
  have s2 : w2.heap.size = w.heap.size + 2 := hw2 ▸ size2 _ _ _
  have b2 : Below w.heap.size w w2 := hw2 ▸ below2 _ _ _
  obtain ⟨w3, hw3⟩ : ∃ w3, ((w2.setCell ⟨w.heap.size + 1, 0, none⟩ (.func (.func 162) #[] #[])).setCell ⟨w.heap.size + 1, 1, none⟩ (.func (.func 163) #[] #[])).setCell ⟨w.heap.size + 1, 2, none⟩ (.func (.func 164) #[] #[]) = w3 := ⟨_, rfl⟩
  obtain ⟨x3, y3, s3, b3⟩ := form_mid w w2 w3 _ _ _ _ .nilFunc _ _ _ x2 y2 s2 b2 hw3
  obtain ⟨AR, hAR⟩ : ∃ AR : Array Value, #[.nilFunc, .nilFunc, .nilFunc, .func (.func 165) #[] #[], .func (.func 166) #[] #[], .func (.func 167) #[] #[], .func (.func 162) #[] #[], .func (.func 163) #[] #[], .func (.func 164) #[] #[], .func (.func 162) #[] #[], .func (.func 163) #[] #[], .func (.func 164) #[] #[], .func (.func 162) #[] #[], .func (.func 163) #[] #[], .func (.func 164) #[] #[], .func (.func 162) #[] #[], .func (.func 163) #[] #[], .func (.func 164) #[] #[], .func (.func 162) #[] #[], .func (.func 163) #[] #[], .func (.func 164) #[] #[], .func (.func 162) #[] #[], .func (.func 163) #[] #[], .func (.func 164) #[] #[], .func (.func 162) #[] #[], .func (.func 163) #[] #[], .func (.func 164) #[] #[], .func (.func 162) #[] #[], .func (.func 163) #[] #[], .func (.func 164) #[] #[], .func (.func 162) #[] #[], .func (.func 163) #[] #[], .func (.func 164) #[] #[], .func (.func 162) #[] #[], .func (.func 163) #[] #[], .func (.func 164) #[] #[]] = AR := ⟨_, rfl⟩
  have hsz : AR.size = 36 := by rw [← hAR]; rfl
  have hall : AR.all (·.oneCell') = true := by rw [← hAR]; kernel_rfl
  obtain ⟨w4, hw4⟩ : ∃ w4, w3.alloc (.cells AR 209) = w4 := ⟨_, rfl⟩
  have x4 : Box w4 w.heap.size 168 #[.nilFunc, .nilFunc, .nilFunc] := hw4 ▸ x3.below ((Below.refl _ _).alloc (Nat.le_refl _) _) x3.lt
  have b4 : Below w.heap.size w w4 := hw4 ▸ b3.alloc b3.size _
  have hst : (storeCells ⟨w3.heap.size, 0, none⟩ AR.toList 0).run Tryz.prog (w3.alloc (.cells #[.nilFunc, .nilFunc, .nilFunc, .nilFunc, .nilFunc, .nilFunc, .nilFunc, .nilFunc, .nilFunc, .nilFunc, .nilFunc, .nilFunc, .nilFunc, .nilFunc, .nilFunc, .nilFunc, .nilFunc, .nilFunc, .nilFunc, .nilFunc, .nilFunc, .nilFunc, .nilFunc, .nilFunc, .nilFunc, .nilFunc, .nilFunc, .nilFunc, .nilFunc, .nilFunc, .nilFunc, .nilFunc, .nilFunc, .nilFunc, .nilFunc, .nilFunc] 209)) = .ok () w4 := hw4 ▸ run_storeCells_new (P := Tryz.prog) w3 209 #[.nilFunc, .nilFunc, .nilFunc, .nilFunc, .nilFunc, .nilFunc, .nilFunc, .nilFunc, .nilFunc, .nilFunc, .nilFunc, .nilFunc, .nilFunc, .nilFunc, .nilFunc, .nilFunc, .nilFunc, .nilFunc, .nilFunc, .nilFunc, .nilFunc, .nilFunc, .nilFunc, .nilFunc, .nilFunc, .nilFunc, .nilFunc, .nilFunc, .nilFunc, .nilFunc, .nilFunc, .nilFunc, .nilFunc, .nilFunc, .nilFunc, .nilFunc] AR (by rw [hsz]; kernel_rfl) (by rw [hsz]; rfl) hall
  have z4 : ∀ j v, AR[j]? = some v → w4.cell? ⟨w3.heap.size, j, none⟩ = some v := fun j v h => by
    rw [← hw4, cell_of_row _ _ j _ _ _ (heap_alloc_last w3 _)]
    exact h
  have k0 := z4 (k.toNat * 3) _ (by rw [← hAR]; exact l0)
  have k1 := z4 (k.toNat * 3 + 1) _ (by rw [← hAR]; exact l1)
  have k2 := z4 (k.toNat * 3 + 2) _ (by rw [← hAR]; exact l2)
  have E := form_end2 w w4 _ _ _ _ (.func (.func 165) #[] #[]) (.func (.func 166) #[] #[]) (.func (.func 167) #[] #[]) x4 b4
  have HE := Lib.hid E
  have q0 := y2.cell 0
  have q1 := y2.cell 1
  have q2 := y2.cell 2
  have f := y2.free
  have r0 := y3.cell 0
  have r1 := y3.cell 1
  have r2 := y3.cell 2
  have p0 := x4.cell 0
  have p1 := x4.cell 1
  have p2 := x4.cell 2
  have g := x4.free
  simp at q0 q1 q2 r0 r1 r2 p0 p1 p2
  have hlt3 : w.heap.size < w3.heap.size := by omega
  clear x2 y2 s2 b2 x3 y3 s3 b3 x4 b4 z4 hall E l0 l1 l2
  go_enter Tryz.func123, Tryz.ntmps123
  go_wp2
  refine bodyPost_ret (v := .tuple #[formC, .bool true]) (results_box2 Tryz.results123 _ _ w.heap.size _ _ _ _ rfl rfl HE.out.1 Tryz.underlying168 rfl (by kernel_rfl)) rfl ?_
  exact ⟨rfl, HE.out.2⟩
set_option maxHeartbeats 4000000 in
theorem formOf_name (k : Int) (h1 : 2 ≤ k) (h2 : k ≤ 11) (w : World) :
    Calls Tryz.prog 123 #[.int .i64 k] w fun e w' => e = .returned (.tuple #[formN, .bool true]) ∧ Below w.heap.size w w' := by
  have d1 : decide (k < 1) = false := decide_eq_false (by omega)
  have d2 : decide (11 < k) = false := decide_eq_false (by omega)
  have d3 : decide (k < 0) = false := decide_eq_false (by omega)
  have d4 : ¬ k < 0 := by omega
  have l0 : (#[.nilFunc, .nilFunc, .nilFunc, .func (.func 165) #[] #[], .func (.func 166) #[] #[], .func (.func 167) #[] #[], .func (.func 162) #[] #[], .func (.func 163) #[] #[], .func (.func 164) #[] #[], .func (.func 162) #[] #[], .func (.func 163) #[] #[], .func (.func 164) #[] #[], .func (.func 162) #[] #[], .func (.func 163) #[] #[], .func (.func 164) #[] #[], .func (.func 162) #[] #[], .func (.func 163) #[] #[], .func (.func 164) #[] #[], .func (.func 162) #[] #[], .func (.func 163) #[] #[], .func (.func 164) #[] #[], .func (.func 162) #[] #[], .func (.func 163) #[] #[], .func (.func 164) #[] #[], .func (.func 162) #[] #[], .func (.func 163) #[] #[], .func (.func 164) #[] #[], .func (.func 162) #[] #[], .func (.func 163) #[] #[], .func (.func 164) #[] #[], .func (.func 162) #[] #[], .func (.func 163) #[] #[], .func (.func 164) #[] #[], .func (.func 162) #[] #[], .func (.func 163) #[] #[], .func (.func 164) #[] #[]] : Array Value)[k.toNat * 3]? = some (.func (.func 162) #[] #[]) := by
    rcases (show k = 2 ∨ k = 3 ∨ k = 4 ∨ k = 5 ∨ k = 6 ∨ k = 7 ∨ k = 8 ∨ k = 9 ∨ k = 10 ∨ k = 11 by omega) with h | h | h | h | h | h | h | h | h | h <;> (subst h; rfl)
  have l1 : (#[.nilFunc, .nilFunc, .nilFunc, .func (.func 165) #[] #[], .func (.func 166) #[] #[], .func (.func 167) #[] #[], .func (.func 162) #[] #[], .func (.func 163) #[] #[], .func (.func 164) #[] #[], .func (.func 162) #[] #[], .func (.func 163) #[] #[], .func (.func 164) #[] #[], .func (.func 162) #[] #[], .func (.func 163) #[] #[], .func (.func 164) #[] #[], .func (.func 162) #[] #[], .func (.func 163) #[] #[], .func (.func 164) #[] #[], .func (.func 162) #[] #[], .func (.func 163) #[] #[], .func (.func 164) #[] #[], .func (.func 162) #[] #[], .func (.func 163) #[] #[], .func (.func 164) #[] #[], .func (.func 162) #[] #[], .func (.func 163) #[] #[], .func (.func 164) #[] #[], .func (.func 162) #[] #[], .func (.func 163) #[] #[], .func (.func 164) #[] #[], .func (.func 162) #[] #[], .func (.func 163) #[] #[], .func (.func 164) #[] #[], .func (.func 162) #[] #[], .func (.func 163) #[] #[], .func (.func 164) #[] #[]] : Array Value)[k.toNat * 3 + 1]? = some (.func (.func 163) #[] #[]) := by
    rcases (show k = 2 ∨ k = 3 ∨ k = 4 ∨ k = 5 ∨ k = 6 ∨ k = 7 ∨ k = 8 ∨ k = 9 ∨ k = 10 ∨ k = 11 by omega) with h | h | h | h | h | h | h | h | h | h <;> (subst h; rfl)
  have l2 : (#[.nilFunc, .nilFunc, .nilFunc, .func (.func 165) #[] #[], .func (.func 166) #[] #[], .func (.func 167) #[] #[], .func (.func 162) #[] #[], .func (.func 163) #[] #[], .func (.func 164) #[] #[], .func (.func 162) #[] #[], .func (.func 163) #[] #[], .func (.func 164) #[] #[], .func (.func 162) #[] #[], .func (.func 163) #[] #[], .func (.func 164) #[] #[], .func (.func 162) #[] #[], .func (.func 163) #[] #[], .func (.func 164) #[] #[], .func (.func 162) #[] #[], .func (.func 163) #[] #[], .func (.func 164) #[] #[], .func (.func 162) #[] #[], .func (.func 163) #[] #[], .func (.func 164) #[] #[], .func (.func 162) #[] #[], .func (.func 163) #[] #[], .func (.func 164) #[] #[], .func (.func 162) #[] #[], .func (.func 163) #[] #[], .func (.func 164) #[] #[], .func (.func 162) #[] #[], .func (.func 163) #[] #[], .func (.func 164) #[] #[], .func (.func 162) #[] #[], .func (.func 163) #[] #[], .func (.func 164) #[] #[]] : Array Value)[k.toNat * 3 + 2]? = some (.func (.func 164) #[] #[]) := by
    rcases (show k = 2 ∨ k = 3 ∨ k = 4 ∨ k = 5 ∨ k = 6 ∨ k = 7 ∨ k = 8 ∨ k = 9 ∨ k = 10 ∨ k = 11 by omega) with h | h | h | h | h | h | h | h | h | h <;> (subst h; rfl)
  obtain ⟨w2, hw2⟩ : ∃ w2, (w.alloc (.cells #[.nilFunc, .nilFunc, .nilFunc] 168)).alloc (.cells #[.nilFunc, .nilFunc, .nilFunc] 168) = w2 := ⟨_, rfl⟩
  have x2 : Box w2 w.heap.size 168 #[.nilFunc, .nilFunc, .nilFunc] := hw2 ▸ heap2_0 _ _ _
  have y2 : Box w2 (w.heap.size + 1) 168 #[.nilFunc, .nilFunc, .nilFunc] := hw2 ▸ heap2_1 _ _ _
  have s2 : w2.heap.size = w.heap.size + 2 := hw2 ▸ size2 _ _ _
  have b2 : Below w.heap.size w w2 := hw2 ▸ below2 _ _ _
  obtain ⟨w3, hw3⟩ : ∃ w3, ((w2.setCell ⟨w.heap.size + 1, 0, none⟩ (.func (.func 162) #[] #[])).setCell ⟨w.heap.size + 1, 1, none⟩ (.func (.func 163) #[] #[])).setCell ⟨w.heap.size + 1, 2, none⟩ (.func (.func 164) #[] #[]) = w3 := ⟨_, rfl⟩
  obtain ⟨x3, y3, s3, b3⟩ := form_mid w w2 w3 _ _ _ _ .nilFunc _ _ _ x2 y2 s2 b2 hw3
  obtain ⟨AR, hAR⟩ : ∃ AR : Array Value, #[.nilFunc, .nilFunc, .nilFunc, .func (.func 165) #[] #[], .func (.func 166) #[] #[], .func (.func 167) #[] #[], .func (.func 162) #[] #[], .func (.func 163) #[] #[], .func (.func 164) #[] #[], .func (.func 162) #[] #[], .func (.func 163) #[] #[], .func (.func 164) #[] #[], .func (.func 162) #[] #[], .func (.func 163) #[] #[], .func (.func 164) #[] #[], .func (.func 162) #[] #[], .func (.func 163) #[] #[], .func (.func 164) #[] #[], .func (.func 162) #[] #[], .func (.func 163) #[] #[], .func (.func 164) #[] #[], .func (.func 162) #[] #[], .func (.func 163) #[] #[], .func (.func 164) #[] #[], .func (.func 162) #[] #[], .func (.func 163) #[] #[], .func (.func 164) #[] #[], .func (.func 162) #[] #[], .func (.func 163) #[] #[], .func (.func 164) #[] #[], .func (.func 162) #[] #[], .func (.func 163) #[] #[], .func (.func 164) #[] #[], .func (.func 162) #[] #[], .func (.func 163) #[] #[], .func (.func 164) #[] #[]] = AR := ⟨_, rfl⟩
  have hsz : AR.size = 36 := by rw [← hAR]; rfl
  have hall : AR.all (·.oneCell') = true := by rw [← hAR]; kernel_rfl
  obtain ⟨w4, hw4⟩ : ∃ w4, w3.alloc (.cells AR 209) = w4 := ⟨_, rfl⟩
  have x4 : Box w4 w.heap.size 168 #[.nilFunc, .nilFunc, .nilFunc] := hw4 ▸ x3.below ((Below.refl _ _).alloc (Nat.le_refl _) _) x3.lt
  have b4 : Below w.heap.size w w4 := hw4 ▸ b3.alloc b3.size _
  have hst : (storeCells ⟨w3.heap.size, 0, none⟩ AR.toList 0).run Tryz.prog (w3.alloc (.cells #[.nilFunc, .nilFunc, .nilFunc, .nilFunc, .nilFunc, .nilFunc, .nilFunc, .nilFunc, .nilFunc, .nilFunc, .nilFunc, .nilFunc, .nilFunc, .nilFunc, .nilFunc, .nilFunc, .nilFunc, .nilFunc, .nilFunc, .nilFunc, .nilFunc, .nilFunc, .nilFunc, .nilFunc, .nilFunc, .nilFunc, .nilFunc, .nilFunc, .nilFunc, .nilFunc, .nilFunc, .nilFunc, .nilFunc, .nilFunc, .nilFunc, .nilFunc] 209)) = .ok () w4 := hw4 ▸ run_storeCells_new (P := Tryz.prog) w3 209 #[.nilFunc, .nilFunc, .nilFunc, .nilFunc, .nilFunc, .nilFunc, .nilFunc, .nilFunc, .nilFunc, .nilFunc, .nilFunc, .nilFunc, .nilFunc, .nilFunc, .nilFunc, .nilFunc, .nilFunc, .nilFunc, .nilFunc, .nilFunc, .nilFunc, .nilFunc, .nilFunc, .nilFunc, .nilFunc, .nilFunc, .nilFunc, .nilFunc, .nilFunc, .nilFunc, .nilFunc, .nilFunc, .nilFunc, .nilFunc, .nilFunc, .nilFunc] AR (by rw [hsz]; kernel_rfl) (by rw [hsz]; rfl) hall
  have z4 : ∀ j v, AR[j]? = some v → w4.cell? ⟨w3.heap.size, j, none⟩ = some v := fun j v h => by
    rw [← hw4, cell_of_row _ _ j _ _ _ (heap_alloc_last w3 _)]
    exact h
  have k0 := z4 (k.toNat * 3) _ (by rw [← hAR]; exact l0)
  have k1 := z4 (k.toNat * 3 + 1) _ (by rw [← hAR]; exact l1)
  have k2 := z4 (k.toNat * 3 + 2) _ (by rw [← hAR]; exact l2)
  have E := form_end2 w w4 _ _ _ _ (.func (.func 162) #[] #[]) (.func (.func 163) #[] #[]) (.func (.func 164) #[] #[]) x4 b4
  have HE := Lib.hid E
  have q0 := y2.cell 0
  have q1 := y2.cell 1
  have q2 := y2.cell 2
  have f := y2.free
  have r0 := y3.cell 0
  have r1 := y3.cell 1
  have r2 := y3.cell 2
  have p0 := x4.cell 0
  have p1 := x4.cell 1
  have p2 := x4.cell 2
  have g := x4.free
  simp at q0 q1 q2 r0 r1 r2 p0 p1 p2
  have hlt3 : w.heap.size < w3.heap.size := by omega
  clear x2 y2 s2 b2 x3 y3 s3 b3 x4 b4 z4 hall E l0 l1 l2
  go_enter Tryz.func123, Tryz.ntmps123
  go_wp2
  refine bodyPost_ret (v := .tuple #[formN, .bool true]) (results_box2 Tryz.results123 _ _ w.heap.size _ _ _ _ rfl rfl HE.out.1 Tryz.underlying168 rfl (by kernel_rfl)) rfl ?_
  exact ⟨rfl, HE.out.2⟩
end Go.Proofs.YtigdcmfmaehjfaaGreat

-- ConcB: slices.Grow of nothing and slices.Concat of two slices of bytes, as the program calls them. No statement of the program is proved here.
namespace Go.Proofs.YtigdcmfmaehjfaaGreat
set_option maxRecDepth 100000
set_option linter.unusedVariables false
set_option linter.unusedSimpArgs false
open Go.RowKit

set_option maxHeartbeats 2000000 in
theorem growB_new (n : Nat) (h0 : 0 < n) (hn : n ≤ 1048576) (w : World) :
    Calls Tryz.prog 233 #[.slice none 0 0, .int .i64 n] w fun e w' => ∃ c, e = .returned (.slice (some ⟨w.heap.size, 0, none⟩) 0 c) ∧ Mine w' w.heap.size (some ⟨w.heap.size, 0, none⟩) 0 c [] ∧ Below w.heap.size w w' := by
  obtain ⟨i0, hi0, hz0, hz1, hz2⟩ := info_parts Tryz.info5
  have hold : (Builtin.firstCells i0.size 0 (.slice none 0 0)).run Tryz.prog w.drew = .ok #[] w.drew := run_firstCells_none w.drew i0.size 0 0 0
  have hrz : ∀ ty, (Builtin.append_ #[47, 3] ty #[.slice none 0 0, .int .i64 (n : Int)]).run Tryz.prog w =
      .ok (.slice (some ⟨w.heap.size, 0, none⟩) n (grownCap w n 0 5)) (w.drew.alloc (.cells (#[] ++ Builtin.zeroCells (Value.int .u8 0).cells n ++ Builtin.zeroCells (Value.int .u8 0).cells (grownCap w n 0 5 - n)) 5)) := fun ty => by
    have h := Lib.run_append_grow_zeros w 47 3 ty 5 i0 (.int .u8 0) .i64 .i64 Tryz.underlying47 Tryz.underlying3 hi0 hz0 none 0 0 [] hold n (by omega) (by omega) (by omega) (by omega) (by rw [hz2]; omega)
      (by rw [Nat.zero_add]; exact growslice_fits (by omega) (by rw [hz2]; omega))
    rw [Nat.zero_add] at h
    simpa using h
  obtain ⟨G, hG⟩ : ∃ G, G = grownCap w n 0 5 := ⟨_, rfl⟩
  have hGn : n ≤ G := by rw [hG]; exact grownCap_ge w _ _ _
  have hGm : G ≤ maxLen := by rw [hG]; exact grownCap_le_maxLen w n 0 5 (by unfold maxLen; omega)
  have hG63 : G ≤ 9223372036854775807 := by unfold maxLen at hGm; omega
  rw [← hG] at hrz
  obtain ⟨cur, hcur⟩ : ∃ cur, (#[] ++ Builtin.zeroCells (Value.int .u8 0).cells n ++ Builtin.zeroCells (Value.int .u8 0).cells (G - n)) = cur := ⟨_, rfl⟩
  have hcs : cur.size = G := by
    rw [← hcur]
    simp [Builtin.zeroCells, Value.cells]
    omega
  rw [hcur] at hrz
  have M0 := Lib.hid (show Mine (w.drew.alloc (.cells cur 5)) w.heap.size (some ⟨w.heap.size, 0, none⟩) 0 G [] from
    ⟨⟨by simp, .inr ⟨w.heap.size, G, cur, rfl, Nat.le_refl _, heap_alloc_last w.drew _, Nat.zero_le _, hGm, by omega, by simp⟩⟩, by simp⟩)
  have B0 := Lib.hid (show Below w.heap.size w (w.drew.alloc (.cells cur 5)) from (Below.refl _ _).drew.alloc (Nat.le_refl _) _)
  clear hold hG hcs hGm hcur
  go_enter Tryz.func233, Tryz.ntmps233
  go_wp2_with (at_builtin; refine Lib.wpList_append_run _ rfl _ _ _ _ rfl _ _ rfl rfl _ _ (hrz _) ?_)
  all_goals (go_ret; exact ⟨G, rfl, M0.out, B0.out⟩)

theorem src_cells {w : World} {B b off n : Nat} {bs : List Int} (h : Byts w B (some ⟨b, off, none⟩) n bs) (hn : 0 < n) : ∀ j u, (bs.map (Value.int .u8))[j]? = some u → w.cell? ((⟨b, off, none⟩ : Addr).add j) = some u := by
  intro j u hj
  obtain ⟨b', off', e, hbB, hrow⟩ := h.row hn
  cases e
  exact hrow j u hj
set_option maxHeartbeats 2000000 in
theorem concat2_any (p n1 c1 n2 c2 : Nat) (A1 A2 : Option Addr) (l1 l2 : List Int) (w : World) (h1 : 0 < n1) (h2 : 0 < n2) (hs : n1 + n2 ≤ 1048576) (hc1 : n1 ≤ c1) (hc2 : n2 ≤ c2) (hp : p < w.heap.size)
    (x0 : w.cell? ⟨p, 0, none⟩ = some (.slice A1 n1 c1)) (x1 : w.cell? ⟨p, 1, none⟩ = some (.slice A2 n2 c2)) (y1 : Byts w w.heap.size A1 n1 l1) (y2 : Byts w w.heap.size A2 n2 l2) :
    Calls Tryz.prog 210 #[.slice (some ⟨p, 0, none⟩) 2 2] w fun e w' => ∃ g c, e = .returned (.slice (some ⟨g, 0, none⟩) (n1 + n2) c) ∧ Mine w' w.heap.size (some ⟨g, 0, none⟩) (n1 + n2) c (l1 ++ l2) ∧ Below w.heap.size w w' := by
  obtain ⟨i0, hi, hz0, hz1, hz2⟩ := info_parts Tryz.info5
  have HI := Lib.hid hi
  have HZ0 := Lib.hid hz0
  have HZ1 := Lib.hid hz1
  have HZ2 := Lib.hid hz2
  have e1 := y1.1
  have e2 := y2.1
  have r1 := y1.2.1
  have r2 := y2.2.1
  obtain ⟨b1, o1, rfl, hb1, _⟩ := y1.at_ (k := 0) h1
  obtain ⟨b2, o2, rfl, hb2, _⟩ := y2.at_ (k := 0) h2
  have Y1 := Lib.hid y1
  have Y2 := Lib.hid y2
  have XC := Lib.hid (fun (W : World) (hW : Below w.heap.size w W) => (⟨(hW.cell (p := ⟨p, 0, none⟩) hp).trans x0, (hW.cell (p := ⟨p, 1, none⟩) hp).trans x1⟩ : W.cell? ⟨p, 0, none⟩ = _ ∧ W.cell? ⟨p, 1, none⟩ = _))
  clear y1 y2 hi hz0 hz1 hz2
  go_enter Tryz.func210, Tryz.ntmps210
  go_wp2
  go_loop [3, 11] (fun s i => ∃ k : Nat, k ≤ 2 ∧ i = .int .i64 k ∧ s = .int .i64 ((if k = 0 then 0 else if k = 1 then n1 else n1 + n2 : Nat) : Int)) (fun _ i => 2 - (intOf i).toNat)
  case atStart => exact ⟨0, Nat.zero_le _, rfl, rfl⟩
  case round =>
    obtain ⟨k, hk, rfl, rfl⟩ := hrel
    rcases (show k = 0 ∨ k = 1 ∨ k = 2 by omega) with rfl | rfl | rfl
    · go_wp2
      go_round
      case rel => exact ⟨1, by omega, by go_num, by go_num⟩
      case measure => simp [intOf]
    · go_wp2
      go_round
      case rel => exact ⟨2, by omega, by go_num, by go_num⟩
      case measure => simp [intOf]
    · clear x0 x1
      go_wp2_with fail
      refine (growB_new (n1 + n2) (by omega) hs w).mono ?_
      rintro e w1 ⟨c, rfl, m1, b1'⟩
      have M1 := Lib.hid m1
      have B1 := Lib.hid b1'
      clear m1 b1'
      go_wp2
      go_loopw [6, 27] (fun s i wr => ∃ (k m g cb : Nat) (l : List Int), k ≤ 2 ∧ i = .int .i64 k ∧ s = .slice (some ⟨g, 0, none⟩) m cb ∧ Mine wr w.heap.size (some ⟨g, 0, none⟩) m cb l ∧ Below w.heap.size w wr ∧
        ((k = 0 ∧ m = 0 ∧ l = []) ∨ (k = 1 ∧ m = n1 ∧ l = l1) ∨ (k = 2 ∧ m = n1 + n2 ∧ l = l1 ++ l2))) (fun _ i _ => 2 - (intOf i).toNat)
      case atStart => exact ⟨0, 0, _, c, [], Nat.zero_le _, rfl, rfl, M1.out, B1.out, .inl ⟨rfl, rfl, rfl⟩⟩
      case round =>
        obtain ⟨k, m, g, cb, l, hk, rfl, rfl, hmi, hbel, hcase⟩ := hrel
        have M := Lib.hid hmi
        have BR := Lib.hid hbel
        have hsr : w.heap.size ≤ wr.heap.size := hbel.size
        clear hmi hbel
        obtain ⟨p0, p1⟩ := XC.out wr BR.out
        rcases hcase with ⟨rfl, rfl, rfl⟩ | ⟨rfl, rfl, rfl⟩ | ⟨rfl, rfl, rfl⟩
        · go_wp2_with (at_builtin; refine wpList_append_own _ rfl _ _ 47 rfl w.heap.size 5 i0 (.int .u8 0) 1 1 Tryz.underlying47 HI.out HZ0.out HZ1.out HZ2.out rfl (by decide) _ _ _ rfl M.out.1 ⟨b1, o1, none⟩ n1 _ (l1.map (Value.int .u8)) rfl ?a0 (src_cells (Y1.out.below BR.out) h1) ?a2 ?a3 ?a4 ?a5 ?_)
          case a0 => rw [List.length_map, Nat.mul_one]; exact e1
          case a2 => intro u hu; obtain ⟨z, _, rfl⟩ := List.mem_map.1 hu; rfl
          case a3 => unfold maxLen; omega
          case a4 => omega
          case a5 => first | omega | (simp; omega)
          intro v8 w8 hown8 hgrow8 hnil8
          obtain ⟨g8, c8, rfl⟩ : ∃ g c, v8 = .slice (some ⟨g, 0, none⟩) n1 c := by
            rcases hown8.2 with ⟨e, _⟩ | ⟨g, cap, cur, e, _⟩
            · exact absurd e hnil8
            · exact ⟨g, cap, e⟩
          have m8 := M.out.app r1 (by simpa [List.map_append] using hown8)
          have b8 := BR.out.grown hgrow8 (by omega) (fun g hg => (World.ownsRow.lt M.out.1 g hg).1)
          have M8 := Lib.hid m8
          have B8 := Lib.hid b8
          clear hown8 hgrow8 hnil8 m8 b8 p0 p1
          go_wp2
          go_roundw
          case rel => exact ⟨1, n1, g8, c8, [] ++ l1, by omega, by go_num, rfl, M8.out, B8.out, .inr (.inl ⟨rfl, rfl, rfl⟩)⟩
          case measure => simp [intOf]
        · go_wp2_with (at_builtin; refine wpList_append_own _ rfl _ _ 47 rfl w.heap.size 5 i0 (.int .u8 0) 1 1 Tryz.underlying47 HI.out HZ0.out HZ1.out HZ2.out rfl (by decide) _ _ _ rfl M.out.1 ⟨b2, o2, none⟩ n2 _ (l2.map (Value.int .u8)) rfl ?d0 (src_cells (Y2.out.below BR.out) h2) ?d2 ?d3 ?d4 ?d5 ?_)
          case d0 => rw [List.length_map, Nat.mul_one]; exact e2
          case d2 => intro u hu; obtain ⟨z, _, rfl⟩ := List.mem_map.1 hu; rfl
          case d3 => unfold maxLen; omega
          case d4 => omega
          case d5 => first | omega | (simp; omega)
          intro v8 w8 hown8 hgrow8 hnil8
          obtain ⟨g8, c8, rfl⟩ : ∃ g c, v8 = .slice (some ⟨g, 0, none⟩) (m + n2) c := by
            rcases hown8.2 with ⟨e, _⟩ | ⟨g, cap, cur, e, _⟩
            · exact absurd e hnil8
            · exact ⟨g, cap, e⟩
          have m8 := M.out.app r2 (by simpa [List.map_append] using hown8)
          have b8 := BR.out.grown hgrow8 (by omega) (fun g hg => (World.ownsRow.lt M.out.1 g hg).1)
          have M8 := Lib.hid m8
          have B8 := Lib.hid b8
          clear hown8 hgrow8 hnil8 m8 b8 p0 p1
          go_wp2
          go_roundw
          case rel => exact ⟨2, m + n2, g8, c8, l ++ l2, by omega, by go_num, rfl, M8.out, B8.out, .inr (.inr ⟨rfl, rfl, rfl⟩)⟩
          case measure => simp [intOf]
        · go_wp2
          go_ret
          exact ⟨g, cb, rfl, M.out, BR.out⟩
end Go.Proofs.YtigdcmfmaehjfaaGreat

-- Bss: Slices of slices of bytes: one that reads as a list of texts of bytes; one that the call made and may write into; no statement of the program is proved here.
namespace Go.Proofs.YtigdcmfmaehjfaaGreat
set_option maxRecDepth 20000
set_option linter.unusedVariables false
set_option linter.unusedSimpArgs false
open Go.RowKit

/-- the i-th of some rows of bytes. -/
def be (bs : List (List Int)) (i : Nat) : List Int := bs[i]?.getD []
theorem be_set (bs : List (List Int)) (k : Nat) (x : List Int) (i : Nat) (hk : k < bs.length) : be (bs.set k x) i = if i = k then x else be bs i := by
  unfold be
  by_cases h : i = k
  · subst h
    rw [if_pos rfl, List.getElem?_set_self hk]; rfl
  · rw [if_neg h, List.getElem?_set_ne (by omega)]
theorem be_append (bs : List (List Int)) (x : List Int) (i : Nat) : be (bs ++ [x]) i = if i = bs.length then x else be bs i := by
  unfold be
  by_cases h : i = bs.length
  · subst h
    simp
  · rw [if_neg h]
    rcases Nat.lt_or_ge i bs.length with h1 | h1
    · rw [List.getElem?_append_left h1]
    · rw [List.getElem?_eq_none (by simp; omega), List.getElem?_eq_none (by omega)]
theorem be_take (bs : List (List Int)) (k : Nat) (h : k < bs.length) : bs.take (k + 1) = bs.take k ++ [be bs k] := by
  unfold be
  rw [List.take_succ_eq_append_getElem h, List.getElem?_eq_getElem h]; rfl

/-- the slice value '.slice A n c' of slices of bytes reads as bs, below block B. -/
def Bss (w : World) (B : Nat) (A : Option Addr) (n : Nat) (bs : List (List Int)) : Prop :=
  bs.length = n ∧ (0 < n → ∃ b off, A = some ⟨b, off, none⟩ ∧ b < B ∧ ∀ i, i < n → ∃ Ai ni ci, w.cell? ⟨b, off + i, none⟩ = some (.slice Ai ni ci) ∧ ni ≤ ci ∧ (Ai = none → ci = 0) ∧ Byts w B Ai ni (be bs i))
section
variable {w w' : World} {B B' n : Nat} {A : Option Addr} {bs : List (List Int)}
theorem Bss.none_ : Bss w B A 0 [] := ⟨rfl, fun h => absurd h (by omega)⟩
theorem Bss.at_ {k : Nat} (h : Bss w B A n bs) (hk : k < n) : ∃ b off Ai ni ci, A = some ⟨b, off, none⟩ ∧ b < B ∧ w.cell? ⟨b, off + k, none⟩ = some (.slice Ai ni ci) ∧ ni ≤ ci ∧ (Ai = none → ci = 0) ∧ Byts w B Ai ni (be bs k) := by
  obtain ⟨b, off, e, hb, hc⟩ := h.2 (by omega)
  obtain ⟨Ai, ni, ci, h1, h2, h3, h4⟩ := hc k hk
  exact ⟨b, off, Ai, ni, ci, e, hb, h1, h2, h3, h4⟩
theorem Bss.keep (h : Bss w B A n bs) (hk : ∀ p : Addr, p.block < B → w'.cell? p = w.cell? p) : Bss w' B A n bs :=
  ⟨h.1, fun hn => by
    obtain ⟨b, off, e, hb, hc⟩ := h.2 hn
    refine ⟨b, off, e, hb, fun i hi => ?_⟩
    obtain ⟨Ai, ni, ci, h1, h2, h3, h4⟩ := hc i hi
    exact ⟨Ai, ni, ci, (hk _ hb).trans h1, h2, h3, h4.keep hk⟩⟩
theorem Bss.more (h : Bss w B A n bs) (hB : B ≤ B') : Bss w B' A n bs :=
  ⟨h.1, fun hn => by
    obtain ⟨b, off, e, hb, hc⟩ := h.2 hn
    refine ⟨b, off, e, by omega, fun i hi => ?_⟩
    obtain ⟨Ai, ni, ci, h1, h2, h3, h4⟩ := hc i hi
    exact ⟨Ai, ni, ci, h1, h2, h3, h4.more hB⟩⟩
theorem Bss.below (h : Bss w B A n bs) (hb : Below B w w') : Bss w' B A n bs := h.keep fun _ hp => hb.cell hp
theorem Bss.drewN (h : Bss w B A n bs) (k : Nat) : Bss (w.drewN k) B A n bs := h.below (below_drewN (Below.refl _ _) k)
theorem Bss.alloc (h : Bss w B A n bs) (hB : B ≤ w.heap.size) (o : Obj) : Bss (w.alloc o) B A n bs := h.keep fun p hp => World.cell?_alloc_lt w o p (by omega)
end

theorem Tryz.infoBs : (Tryz.prog.info? 47).map (fun i => (i.zero, i.size, i.bytes)) = some (some (.slice none 0 0), 1, 24) := by kernel_rfl

/-- what stands in a row of slices. -/
def bvs (n : Nat) (sl : Nat → Sub) : List Value := (List.range n).map fun i => (sl i).v
theorem bvs_at (n : Nat) (sl : Nat → Sub) (j : Nat) (h : j < n) : (bvs n sl)[j]? = some (sl j).v := by simp [bvs, h]
theorem bvs_append (n : Nat) (sl : Nat → Sub) (x : Sub) : bvs n sl ++ [x.v] = bvs (n + 1) (fun i => if i = n then x else sl i) := by
  apply List.ext_getElem?
  intro j
  by_cases hj : j < n
  · rw [List.getElem?_append_left (by simp [bvs]; omega), bvs_at _ _ j hj, bvs_at _ _ j (by omega)]
    simp only [show ¬ j = n by omega, if_false]
  · rw [List.getElem?_append_right (by simp [bvs]; omega)]
    have hl2 : (bvs n sl).length = n := by simp [bvs]
    rw [hl2]
    by_cases h0 : j = n
    · subst h0
      rw [bvs_at _ _ _ (by omega)]; simp
    · rw [List.getElem?_eq_none (by simp; omega), List.getElem?_eq_none (by simp [bvs]; omega)]

/-- the slices in a row of n are of the call's own, each in a block of its own, of the blocks from lo to hi, none of them g. -/
structure SubB (w : World) (lo hi : Nat) (g : Option Nat) (n : Nat) (bs : List (List Int)) (sl : Nat → Sub) : Prop where
  mine : ∀ i, i < n → Mine w lo (sl i).A (sl i).n (sl i).c (be bs i)
  apart : ∀ i j, i < n → j < n → i ≠ j → ∀ b, (sl i).v.ownBlock = some b → (sl j).v.ownBlock ≠ some b
  other : ∀ i, i < n → ∀ b, (sl i).v.ownBlock = some b → g ≠ some b
  under : ∀ i, i < n → ∀ b, (sl i).v.ownBlock = some b → b < hi
/-- the slice '.slice A n c' of slices of bytes is of the call's own, with all that it holds, in blocks from lo to hi, and reads as bs. -/
def OwnBs (w : World) (lo hi : Nat) (A : Option Addr) (n c : Nat) (bs : List (List Int)) : Prop :=
  bs.length = n ∧ (∀ b, (Value.slice A n c).ownBlock = some b → b < hi) ∧ ∃ sl, w.ownsRow lo 47 1 (.slice A n c) n (bvs n sl) ∧ SubB w lo hi (Value.slice A n c).ownBlock n bs sl
section
variable {w w' : World} {lo hi hi' n c g : Nat} {A : Option Addr} {bs : List (List Int)}
theorem OwnBs.nil (w : World) (lo hi : Nat) : OwnBs w lo hi none 0 0 [] := ⟨rfl, fun b h => by simp [Value.ownBlock] at h, fun _ => ⟨none, 0, 0, []⟩, World.ownsRow_nil _ _ _ _, fun i h => by omega, fun i j h => by omega, fun i h => by omega, fun i h => by omega⟩
theorem OwnBs.len (h : OwnBs w lo hi A n c bs) : bs.length = n := h.1
theorem OwnBs.touch {S : Nat → Prop} (h : OwnBs w lo hi A n c bs) (t : Touch S w w') (hn : ∀ b, lo ≤ b → b < hi → ¬ S b) : OwnBs w' lo hi A n c bs := by
  obtain ⟨hl, hu, sl, hr, hs⟩ := h
  exact ⟨hl, hu, sl, own_touch hr t (fun b hb => hn b (hr.lt b hb).1 (hu b hb)), fun i hi => (hs.mine i hi).touch t (fun b hb => hn b ((hs.mine i hi).1.lt b hb).1 (hs.under i hi b hb)), hs.apart, hs.other, hs.under⟩
theorem OwnBs.below (h : OwnBs w lo hi A n c bs) (hb : Below hi w w') : OwnBs w' lo hi A n c bs :=
  h.touch (S := fun k => hi ≤ k) ⟨hb.os, hb.tape, hb.output, hb.size, fun k hk hs => hb.block k (by omega)⟩ (fun b _ h1 h2 => by omega)
theorem OwnBs.more (h : OwnBs w lo hi A n c bs) (hh : hi ≤ hi') : OwnBs w lo hi' A n c bs := by
  obtain ⟨hl, hu, sl, hr, hs⟩ := h
  exact ⟨hl, fun b hb => Nat.lt_of_lt_of_le (hu b hb) hh, sl, hr, hs.mine, hs.apart, hs.other, fun i hi b hb => Nat.lt_of_lt_of_le (hs.under i hi b hb) hh⟩
theorem OwnBs.base {lo' : Nat} (h : OwnBs w lo hi A n c bs) (hh : lo' ≤ lo) : OwnBs w lo' hi A n c bs := by
  obtain ⟨hl, hu, sl, hr, hs⟩ := h
  refine ⟨hl, hu, sl, ⟨hr.1, ?_⟩, fun i hi => (hs.mine i hi).base hh, hs.apart, hs.other, hs.under⟩
  rcases hr.2 with h | ⟨g, cap, cur, hv, hg, r⟩
  · exact .inl h
  · exact .inr ⟨g, cap, cur, hv, by omega, r⟩
theorem OwnBs.form (h : OwnBs w lo hi A n c bs) (hn : 0 < n) : ∃ g, A = some ⟨g, 0, none⟩ ∧ lo ≤ g ∧ g < hi ∧ g < w.heap.size := by
  obtain ⟨hl, hu, sl, hr, hs⟩ := h
  obtain ⟨g, cap, hv, h1, h2⟩ := World.ownsRow.form hr hn
  injection hv with hA
  subst hA
  exact ⟨g, rfl, h1, hu g (by simp [Value.ownBlock]), h2⟩
theorem OwnBs.bss (h : OwnBs w lo hi A n c bs) : Bss w hi A n bs := by
  refine ⟨h.1, fun hn => ?_⟩
  obtain ⟨g, rfl, _, h2, _⟩ := h.form hn
  obtain ⟨hl, hu, sl, hr, hs⟩ := h
  refine ⟨g, 0, rfl, h2, fun i hi => ?_⟩
  have m := hs.mine i hi
  refine ⟨(sl i).A, (sl i).n, (sl i).c, ?_, mine_cap m, mine_none m, m.len, m.2, fun hp => ?_⟩
  · rw [Nat.zero_add, World.ownsRow.cellAt hr _ (by omega), bvs_at _ _ _ (by omega)]; rfl
  · obtain ⟨b, off, e, hb, hc⟩ := m.byts.2.2 hp
    refine ⟨b, off, e, ?_, hc⟩
    obtain ⟨g', e', _⟩ := m.form hp
    rw [e] at e'
    cases e'
    exact hs.under i hi b (by unfold Sub.v; rw [e]; simp [Value.ownBlock])
theorem OwnBs.free (h : OwnBs w lo hi (some ⟨g, 0, none⟩) n c bs) (k : Nat) : w.frozen? ⟨g, k, none⟩ = false := by
  obtain ⟨hl, hu, sl, hr, hs⟩ := h
  exact World.ownsRow.frozenAt hr k
/-- other bytes in the k-th slice. -/
theorem OwnBs.inner {k : Nat} (h : OwnBs w lo hi (some ⟨g, 0, none⟩) n c bs) (hk : k < n) :
    ∃ Ai ni ci, w.cell? ⟨g, k, none⟩ = some (.slice Ai ni ci) ∧ Mine w lo Ai ni ci (be bs k) ∧ (∀ b, (Value.slice Ai ni ci).ownBlock = some b → lo ≤ b ∧ b < hi) ∧
      ∀ w' bs', Mine w' lo Ai ni ci bs' → w.grownBy w' (Value.slice Ai ni ci).ownBlock → OwnBs w' lo hi (some ⟨g, 0, none⟩) n c (bs.set k bs') := by
  obtain ⟨hl, hu, sl, hr, hs⟩ := h
  refine ⟨(sl k).A, (sl k).n, (sl k).c, ?_, hs.mine k hk, fun b hb => ⟨((hs.mine k hk).1.lt b hb).1, hs.under k hk b hb⟩, fun w' bs' hm hg => ?_⟩
  · rw [World.ownsRow.cellAt hr _ (by omega), bvs_at _ _ _ (by omega)]; rfl
  · have t := Touch.of_grown hg
    refine ⟨by simp [hl], hu, sl, ?_, ⟨fun i hi1 => ?_, hs.apart, hs.other, hs.under⟩⟩
    · refine own_touch hr t (fun b hb e => ?_)
      have : g = b := by simpa [Value.ownBlock] using hb
      subst this
      exact hs.other k hk g e.symm (by simp [Value.ownBlock])
    · rw [be_set _ _ _ _ (by omega)]
      by_cases h : i = k
      · subst h; rw [if_pos rfl]; exact hm
      · rw [if_neg h]
        exact (hs.mine i hi1).touch t (fun b hb e => hs.apart i k hi1 hk h b hb e.symm)
end
/-- one more slice, made since. -/
theorem OwnBs.pushed {w w' : World} {lo hi hi' n c n' c' g cap : Nat} {A A' : Option Addr} {cs : List (List Int)} {bs : List Int} {sl : Nat → Sub}
    (hl : cs.length = n) (hu : ∀ b, (Value.slice A n c).ownBlock = some b → b < hi) (hs : SubB w lo hi (Value.slice A n c).ownBlock n cs sl) (hx : Mine w lo A' n' c' bs)
    (hxb : ∀ b, (Value.slice A' n' c').ownBlock = some b → hi ≤ b)
    (hr : w'.ownsRow lo 47 1 (.slice (some ⟨g, 0, none⟩) (n + 1) cap) (n + 1) (bvs n sl ++ [.slice A' n' c'])) (hg : w.grownBy w' (Value.slice A n c).ownBlock)
    (hgo : (Value.slice A n c).ownBlock = some g ∨ g = w.heap.size) (hh : hi ≤ w.heap.size) (hi1 : w'.heap.size ≤ hi') : OwnBs w' lo hi' (some ⟨g, 0, none⟩) (n + 1) cap (cs ++ [bs]) := by
  have hsz := hg.size
  have t := Touch.of_grown hg
  refine ⟨by simp [hl], fun b hb => ?_, fun i => if i = n then ⟨A', n', c', bs⟩ else sl i, ?_, ?_⟩
  · have := (World.ownsRow.lt hr b hb).2
    omega
  · rw [← bvs_append n sl ⟨A', n', c', bs⟩]; exact hr
  · have hlt : ∀ i, i < n → ∀ b, (sl i).v.ownBlock = some b → b < w.heap.size := fun i hi b hb => (World.ownsRow.lt (hs.mine i hi).1 b hb).2
    have hxl : ∀ b, (Value.slice A' n' c').ownBlock = some b → b < w.heap.size := fun b hb => (World.ownsRow.lt hx.1 b hb).2
    refine ⟨fun i hi => ?_, fun i j hi hj hij b => ?_, fun i hi b => ?_, fun i hi b => ?_⟩
    · rw [be_append, hl]
      by_cases h : i = n
      · simp only [h, if_true]
        exact hx.touch t (fun b hb e => by have := hxb b hb; have := hu b e.symm; omega)
      · simp only [h, if_false]
        exact (hs.mine i (by omega)).touch t (fun b hb e => hs.other i (by omega) b hb e.symm)
    · by_cases h : i = n
      · have h2 : ¬ j = n := by omega
        simp only [h, h2, if_true, if_false]
        intro e1 e2
        have := hxb b e1
        have := hs.under j (by omega) b e2
        omega
      · by_cases h2 : j = n
        · simp only [h, h2, if_true, if_false]
          intro e1 e2
          have := hxb b e2
          have := hs.under i (by omega) b e1
          omega
        · simp only [h, h2, if_false]
          exact hs.apart i j (by omega) (by omega) hij b
    · have hown : (Value.slice (some (⟨g, 0, none⟩ : Addr)) (n + 1) cap).ownBlock = some g := by simp [Value.ownBlock]
      rw [hown]
      by_cases h : i = n
      · simp only [h, if_true]
        intro e1 e2
        cases e2
        have := hxb _ e1
        have := hxl _ e1
        rcases hgo with e | e
        · have := hu _ e; omega
        · omega
      · simp only [h, if_false]
        intro e1 e2
        cases e2
        rcases hgo with e | e
        · exact hs.other i (by omega) _ e1 e
        · have := hlt i (by omega) _ e1; omega
    · by_cases h : i = n
      · simp only [h, if_true]
        intro e1
        have := hxl b e1
        omega
      · simp only [h, if_false]
        intro e1
        have := hlt i (by omega) b e1
        omega
theorem OwnBs.made0 (w : World) : OwnBs (w.alloc (.cells #[] 47)) w.heap.size (w.heap.size + 1) (some ⟨w.heap.size, 0, none⟩) 0 0 [] := by
  refine ⟨rfl, fun b h => by simp [Value.ownBlock] at h; omega, fun _ => ⟨none, 0, 0, []⟩, ?_, fun i h => by omega, fun i j h => by omega, fun i h => by omega, fun i h => by omega⟩
  exact World.ownsRow_lit w #[] 0 (Nat.le_refl _) (by unfold maxLen; omega) rfl
/-- the call answered with slices of bytes of its own. -/
def GaveBs (w : World) (bs : List (List Int)) (e : Ending) (w' : World) : Prop := ∃ A n c, e = .returned (.slice A n c) ∧ OwnBs w' w.heap.size w'.heap.size A n c bs ∧ Below w.heap.size w w'
end Go.Proofs.YtigdcmfmaehjfaaGreat

-- FrameM: Plain facts on frames. No statement of the program is proved here.
namespace Go.Proofs.YtigdcmfmaehjfaaGreat
set_option maxRecDepth 20000
set_option linter.unusedVariables false
set_option linter.unusedSimpArgs false
open Go.RowKit

/-- a number in two bytes. -/
def two (n : Int) : List Int := [n % 256, n / 256]
/-- a frame of some bytes. -/
def framed (b : List Int) : List Int := if 65535 < b.length then [] else (two (b.length : Int) ++ nameBytes (nameOf b)) ++ b
theorem framed_bd (b : List Int) (hb : ∀ z ∈ b, 0 ≤ z ∧ z ≤ 255) : ∀ z ∈ framed b, 0 ≤ z ∧ z ≤ 255 := by
  unfold framed
  split
  · simp
  · rename_i h
    intro z hz
    rcases List.mem_append.1 hz with hz | hz
    · rcases List.mem_append.1 hz with hz | hz
      · simp [two] at hz
        omega
      · unfold nameBytes at hz
        split at hz
        · cases hz
        · exact nb_bd _ _ z hz
    · exact hb z hz
theorem framed_len (b : List Int) : (framed b).length ≤ b.length + 10 := by
  unfold framed
  split
  · simp
  · simp only [List.length_append, two, List.length_cons, List.length_nil]
    have : (nameBytes (nameOf b)).length ≤ 8 := by
      unfold nameBytes
      split <;> simp [nb]
    omega
/-- the number that stands in two bytes. -/
def ofTwo (b : List Int) (i : Nat) : Nat := (b[i]?.getD 0 + 256 * b[i + 1]?.getD 0).toNat
/-- the body of the frame at a place. -/
def bodyAt (b : List Int) (i : Nat) : List Int := (b.drop (i + 10)).take (ofTwo b i)
/-- the eight bytes of its name. -/
def eightAt (b : List Int) (i : Nat) : List Int := (b.drop (i + 2)).take 8
/-- there is a whole frame with the right name. -/
def frameAt (b : List Int) (i : Nat) : Prop := i + 10 + ofTwo b i ≤ b.length ∧ (eightAt b i)[7]?.getD 0 ≤ 127 ∧ leVal (eightAt b i) = nameOf (bodyAt b i)
instance (b : List Int) (i : Nat) : Decidable (frameAt b i) := by unfold frameAt; infer_instance
/-- the bodies of the frames from a place on, and where they end. -/
def framesAt (b : List Int) (i : Nat) : List (List Int) × Nat :=
  if h : frameAt b i then (bodyAt b i :: (framesAt b (i + 10 + ofTwo b i)).1, (framesAt b (i + 10 + ofTwo b i)).2) else ([], i)
termination_by b.length - i
decreasing_by all_goals (have := h.1; omega)
theorem framesAt_no (b : List Int) (i : Nat) (h : ¬ frameAt b i) : framesAt b i = ([], i) := by rw [framesAt, dif_neg h]
theorem framesAt_yes (b : List Int) (i : Nat) (h : frameAt b i) : framesAt b i = (bodyAt b i :: (framesAt b (i + 10 + ofTwo b i)).1, (framesAt b (i + 10 + ofTwo b i)).2) := by
  conv => lhs; rw [framesAt, dif_pos h]
theorem bodyAt_len (b : List Int) (i : Nat) (h : i + 10 + ofTwo b i ≤ b.length) : (bodyAt b i).length = ofTwo b i := by
  unfold bodyAt; rw [List.length_take, List.length_drop]; omega
theorem framesAt_bd (b : List Int) (hb : ∀ z ∈ b, 0 ≤ z ∧ z ≤ 255) (m : Nat) : ∀ i, b.length - i ≤ m → (framesAt b i).1.length ≤ b.length - i ∧ ((∀ x ∈ (framesAt b i).1, x.length ≤ b.length ∧ ∀ z ∈ x, 0 ≤ z ∧ z ≤ 255)) := by
  induction m with
  | zero =>
    intro i hi
    rw [framesAt_no b i (fun h => by have := h.1; omega)]
    simp
  | succ m ih =>
    intro i hi
    by_cases h : frameAt b i
    · rw [framesAt_yes b i h]
      have h1 := h.1
      obtain ⟨k1, k2⟩ := ih (i + 10 + ofTwo b i) (by omega)
      refine ⟨by simp only [List.length_cons]; omega, fun x hx => ?_⟩
      rcases List.mem_cons.1 hx with rfl | hx
      · refine ⟨by rw [bodyAt_len b i h1]; omega, fun z hz => ?_⟩
        unfold bodyAt at hz
        exact hb z (List.mem_of_mem_drop (List.mem_of_mem_take hz))
      · exact k2 x hx
    · rw [framesAt_no b i h]; simp
end Go.Proofs.YtigdcmfmaehjfaaGreat

-- L1B: The model's copy of some bytes, of no bytes too.
namespace Go.Proofs.YtigdcmfmaehjfaaGreat
set_option maxRecDepth 20000
set_option linter.unusedVariables false
set_option linter.unusedSimpArgs false
open Go.RowKit

theorem l1Bytes_all (A : Option Addr) (n c : Nat) (bs : List Int) (B : Nat) (w : World) (hn : n ≤ 1048576) (hA : A = none → c = 0) (hB : B ≤ w.heap.size) (hb : Byts w B A n bs) :
    Calls Tryz.prog 95 #[.slice A n c] w fun e w' => ∃ A' n' c', e = .returned (.slice A' n' c') ∧ Mine w' w.heap.size A' n' c' bs ∧ Below w.heap.size w w' := by
  by_cases h0 : 0 < n
  · exact l1Bytes_any A n c bs B w h0 hn hB hb
  · obtain rfl : n = 0 := by omega
    have hlen := hb.1
    obtain rfl : bs = [] := List.eq_nil_of_length_eq_zero hlen
    obtain ⟨i0, hi, hz0, hz1, hz2⟩ := info_parts Tryz.info5
    have HI := Lib.hid hi
    have HZ0 := Lib.hid hz0
    have HZ1 := Lib.hid hz1
    have HZ2 := Lib.hid hz2
    have E0 := Lib.hid (Mine.empty w)
    have B0 := Lib.hid ((Below.refl w.heap.size w).alloc (Nat.le_refl _) (.cells #[] 5))
    clear hi hz0 hz1 hz2 hb
    cases A with
    | none =>
      obtain rfl : c = 0 := hA rfl
      go_enter Tryz.func95, Tryz.ntmps95
      go_wp2
      go_ret
      exact ⟨_, _, _, rfl, E0.out, B0.out⟩
    | some a =>
      go_enter Tryz.func95, Tryz.ntmps95
      go_wp2_with (at_builtin; refine wpList_append_own _ rfl _ _ 47 rfl w.heap.size 5 i0 (.int .u8 0) 1 1 Tryz.underlying47 HI.out HZ0.out HZ1.out HZ2.out rfl (by decide) _ _ _ rfl E0.out.1 a 0 _ ([] : List Value) rfl ?e0 ?e1 ?e2 ?e3 ?e4 ?e5 ?_)
      case e0 => rfl
      case e1 => intro j u hj; simp at hj
      case e2 => intro u hu; cases hu
      case e3 => unfold maxLen; omega
      case e4 => omega
      case e5 => simp
      intro v1 w1 hown1 hgrow1 hnil1
      obtain ⟨g1, c1, rfl⟩ : ∃ g c, v1 = .slice (some ⟨g, 0, none⟩) 0 c := by
        rcases hown1.2 with ⟨e, _⟩ | ⟨g, cap, cur, e, _⟩
        · exact absurd e hnil1
        · exact ⟨g, cap, e⟩
      have hm1 : Mine w1 w.heap.size (some ⟨g1, 0, none⟩) 0 c1 [] := ⟨by simpa using hown1, by simp⟩
      have hb1 : Below w.heap.size w w1 := B0.out.grown hgrow1 (by simp) (fun g hg => (E0.out.1.lt g hg).1)
      go_wp2
      go_ret
      exact ⟨_, _, _, rfl, hm1, hb1⟩
end Go.Proofs.YtigdcmfmaehjfaaGreat
