/- Several texts in one, in build order: BssX, L1B, NewRow, ProofS, ProofB, ProofP. -/
import Derived.Test.YtpgmiokdlloinaaPkH
import Derived.StillTailTactics
import Derived.Deep.RegionLaw
-- BssX: What the helpers of the exact laws do at slices of slices of bytes: compared, marked, held against the marks.
namespace Go.Proofs.Ytpgmiokdlloinaa
set_option maxRecDepth 20000
set_option linter.unusedVariables false
set_option linter.unusedSimpArgs false
open Go.RowKit

/-- how many bytes there are in all. -/
def szB : List (List Int) → Nat
  | [] => 0
  | x :: r => x.length + szB r
theorem szB_append (a b : List (List Int)) : szB (a ++ b) = szB a + szB b := by
  induction a with
  | nil => simp [szB]
  | cons x r ih => simp [szB, ih]; omega
theorem szB_take (bs : List (List Int)) (k : Nat) (h : k < bs.length) : szB (bs.take (k + 1)) = szB (bs.take k) + (be bs k).length := by
  rw [be_take bs k h, szB_append]; simp [szB]
theorem szB_take_le (bs : List (List Int)) (k : Nat) : szB (bs.take k) ≤ szB bs := by
  conv => rhs; rw [← List.take_append_drop k bs, szB_append]
  omega
/-- the rows as the marks from k0 on leave them. -/
def markB (k0 : Int) : List (List Int) → List (List Int)
  | [] => []
  | x :: r => marks k0 x.length :: markB (k0 + x.length) r
theorem markB_append (k0 : Int) (a b : List (List Int)) : markB k0 (a ++ b) = markB k0 a ++ markB (k0 + szB a) b := by
  induction a generalizing k0 with
  | nil => simp [markB, szB]
  | cons x r ih =>
    have e : k0 + (x.length : Int) + (szB r : Int) = k0 + ((x.length + szB r : Nat) : Int) := by push_cast; omega
    simp only [List.cons_append, markB, ih, szB, e]
theorem markB_len (k0 : Int) (bs : List (List Int)) : (markB k0 bs).length = bs.length := by
  induction bs generalizing k0 with
  | nil => rfl
  | cons x r ih => simp [markB, ih]
theorem markB_be (k0 : Int) (bs : List (List Int)) (k : Nat) (h : k < bs.length) : be (markB k0 bs) k = marks (k0 + szB (bs.take k)) (be bs k).length := by
  have e : bs = bs.take k ++ be bs k :: bs.drop (k + 1) := by
    conv => lhs; rw [← List.take_append_drop k bs, List.drop_eq_getElem_cons h]
    unfold be; rw [List.getElem?_eq_getElem h]; rfl
  have hl : (markB k0 (bs.take k)).length = k := by rw [markB_len]; simp; omega
  conv => lhs; unfold be; rw [e, markB_append]
  rw [List.getElem?_append_right (by omega), hl]
  simp [markB]
/-- the rows, marked as far as the k-th. -/
def markBTo (k0 : Int) (bs : List (List Int)) (k : Nat) : List (List Int) := markB k0 (bs.take k) ++ bs.drop k
theorem markBTo_len (k0 : Int) (bs : List (List Int)) (k : Nat) : (markBTo k0 bs k).length = bs.length := by
  unfold markBTo; rw [List.length_append, markB_len]; simp; omega
theorem markBTo_be (k0 : Int) (bs : List (List Int)) (k : Nat) (h : k < bs.length) : be (markBTo k0 bs k) k = be bs k := by
  unfold markBTo be
  have hl : (markB k0 (bs.take k)).length = k := by rw [markB_len]; simp; omega
  rw [List.getElem?_append_right (by omega), hl]
  simp
theorem markBTo_step (k0 : Int) (bs : List (List Int)) (k : Nat) (h : k < bs.length) : (markBTo k0 bs k).set k (marks (k0 + szB (bs.take k)) (be bs k).length) = markBTo k0 bs (k + 1) := by
  unfold markBTo
  have hl : (markB k0 (bs.take k)).length = k := by rw [markB_len]; simp; omega
  have hc : bs[k] = be bs k := by unfold be; rw [List.getElem?_eq_getElem h]; rfl
  rw [be_take bs k h, markB_append, List.set_append, if_neg (by omega), hl, List.drop_eq_getElem_cons h, Nat.sub_self, List.set_cons_zero, List.append_assoc]
  rfl
theorem markBTo_all (k0 : Int) (bs : List (List Int)) : markBTo k0 bs bs.length = markB k0 bs := by
  unfold markBTo; simp

theorem likeBs_yes (A A' : Option Addr) (n c c' : Nat) (bs : List (List Int)) (B B' : Nat) (w : World) (hn : n ≤ 1048576) (hm : ∀ i, (be bs i).length ≤ 1048576) (hB : B ≤ w.heap.size) (hB' : B' ≤ w.heap.size) (hb : Bss w B A n bs) (hb' : Bss w B' A' n bs) :
    Calls Try.prog 38 #[.slice A n c, .slice A' n c'] w fun e w' => e = .returned (.bool true) ∧ Below w.heap.size w w' := by
  have HB := Lib.hid (hb.more hB)
  have HB' := Lib.hid (hb'.more hB')
  clear hb hb'
  go_enter Try.func38, Try.ntmps38
  go_wp2
  go_loopw [5] (fun i wr => ∃ k : Nat, k ≤ n ∧ i = .int .i64 k ∧ Below w.heap.size w wr) (fun i _ => n - (intOf i).toNat)
  case atStart => exact ⟨0, Nat.zero_le _, rfl, Below.refl _ _⟩
  case round =>
    obtain ⟨k, hk, rfl, hbel⟩ := hrel
    by_cases hlt : k < n
    · obtain ⟨b, off, Ai, ni, ci, rfl, hbB, h1, _, _, hy⟩ := (HB.out.below hbel).at_ hlt
      obtain ⟨b', off', Ai', ni', ci', rfl, hbB', h1', _, _, hy'⟩ := (HB'.out.below hbel).at_ hlt
      have hnm := hm k
      have e1 : ni' = ni := hy'.1.symm.trans hy.1
      obtain rfl := e1
      have hl := hy.1
      generalize be bs k = x at hy hy' hnm hl
      have Y := Lib.hid hy
      have Y' := Lib.hid hy'
      have BR := Lib.hid hbel
      clear hbel hy hy'
      go_wp2
      go_still_tail 8, (by kernel_rfl)
      change wpList _ _ _ _ _ wr.drew
      have BD := Lib.hid BR.out.drew
      have hsz := BR.out.size
      have Y := Lib.hid (Y.out.drewN 1)
      have Y' := Lib.hid (Y'.out.drewN 1)
      have e2 : wr.drewN 1 = wr.drew := rfl
      rw [e2] at Y Y'
      have hsz2 : wr.drew.heap.size = wr.heap.size := rfl
      generalize wr.drew = w2 at BD Y Y' hsz2
      clear h1 h1' e2
      go_wp2_with fail
      refine (like_yes _ _ _ _ _ x _ _ w2 (by omega) Y.out Y'.out).mono ?_
      rintro e w3 ⟨rfl, q, hq⟩
      have b3 : Below w2.heap.size w2 w3 := by rw [hq]; exact below_drewN (Below.refl _ _) q
      have B3 := Lib.hid (BD.out.trans (b3.mono BD.out.size))
      clear b3 hq
      go_wp2
      go_roundw
      case rel => exact ⟨k + 1, by omega, by go_num, B3.out⟩
      case measure => simp [intOf]; omega
    · go_wp2
      go_ret
      exact ⟨rfl, hbel⟩

theorem markBs_any (A : Option Addr) (n c lo hi : Nat) (bs : List (List Int)) (k0 : Int) (w : World) (h0 : 0 ≤ k0) (h1 : k0 + szB bs ≤ 4611686018427387904) (hn : n ≤ 1048576) (hm : OwnBs w lo hi A n c bs) :
    Calls Try.prog 39 #[.slice A n c, .int .i64 k0] w fun e w' => e = .returned (.int .i64 (k0 + szB bs)) ∧ OwnBs w' lo hi A n c (markB k0 bs) ∧ Touch (fun b => lo ≤ b ∧ b < hi) w w' := by
  have hx := hm.len
  have HM := Lib.hid hm
  clear hm
  go_enter Try.func39, Try.ntmps39
  go_wp2
  go_loopw [1, 5] (fun q i wr => ∃ k : Nat, k ≤ n ∧ i = .int .i64 k ∧ q = .int .i64 (k0 + szB (bs.take k)) ∧ OwnBs wr lo hi A n c (markBTo k0 bs k) ∧ Touch (fun b => lo ≤ b ∧ b < hi) w wr) (fun _ i _ => n - (intOf i).toNat)
  case atStart => exact ⟨0, Nat.zero_le _, rfl, by simp [szB], by simpa [markBTo, markB] using HM.out, Touch.of_below (Below.refl _ _)⟩
  case round =>
    obtain ⟨k, hk, rfl, rfl, hmr, htr⟩ := hrel
    by_cases hlt : k < n
    · obtain ⟨g, rfl, hbg, hgh, hlt'⟩ := hmr.form (by omega)
      have hst := szB_take bs k (by omega)
      have hall := szB_take_le bs (k + 1)
      obtain ⟨Ai, ni, ci, hc1, hmi, hui, hin⟩ := hmr.inner hlt
      rw [markBTo_be k0 bs k (by omega)] at hmi
      have hni : (be bs k).length = ni := hmi.len
      have hstep := markBTo_step k0 bs k (by omega)
      have MI := Lib.hid hmi
      have IN := Lib.hid hin
      have UI := Lib.hid hui
      have HST := Lib.hid hstep
      have HLN := Lib.hid hni
      have TR := Lib.hid htr
      have hk2 : k0 + szB (bs.take k) + ni ≤ 4611686018427387904 := by omega
      have hkp : 0 ≤ k0 + szB (bs.take k) := by omega
      have hfin : k0 + szB (bs.take k) + ni = k0 + szB (bs.take (k + 1)) := by omega
      have HF := Lib.hid hfin
      generalize hq : k0 + (szB (bs.take k) : Int) = q at *
      clear hmr hmi hin hui hstep hst hfin hall hq htr
      go_wp2_with fail
      refine (mark_any Ai ni ci lo _ q _ hkp hk2 MI.out).mono ?_
      rintro e w1 ⟨rfl, m1, g1⟩
      have hc := IN.out _ _ m1 g1
      have hs2 := HST.out
      rw [HLN.out] at hs2
      have hc' : OwnBs w1 lo hi (some ⟨g, 0, none⟩) n c (markBTo k0 bs (k + 1)) := by rw [← hs2]; exact hc
      have O1 := Lib.hid hc'
      have T2 := Lib.hid (TR.out.trans ((Touch.of_grown g1).mono (fun b e => UI.out b e.symm)))
      clear hc m1 g1 hs2 hc' hc1
      go_wp2
      go_roundw
      case rel => exact ⟨k + 1, by omega, by go_num, by rw [← HF.out], O1.out, T2.out⟩
      case measure => simp [intOf]; omega
    · go_wp2
      go_ret
      obtain rfl : k = n := by omega
      subst hx
      rw [List.take_length, markBTo_all] at *
      exact ⟨rfl, hmr, htr⟩
theorem heldBs_yes (A : Option Addr) (n c : Nat) (B : Nat) (bs : List (List Int)) (k0 : Int) (w : World) (h0 : 0 ≤ k0) (h1 : k0 + szB bs ≤ 4611686018427387904) (hn : n ≤ 1048576) (hb : Bss w B A n (markB k0 bs)) :
    Calls Try.prog 40 #[.slice A n c, .int .i64 k0] w fun e w' => e = .returned (.int .i64 (k0 + szB bs)) ∧ w = w' := by
  have HB := Lib.hid hb
  have hx : bs.length = n := (markB_len k0 bs).symm.trans hb.1
  clear hb
  go_enter Try.func40, Try.ntmps40
  go_wp2
  go_loop [1, 5] (fun q i => ∃ k : Nat, k ≤ n ∧ i = .int .i64 k ∧ q = .int .i64 (k0 + szB (bs.take k))) (fun _ i => n - (intOf i).toNat)
  case atStart => exact ⟨0, Nat.zero_le _, rfl, by simp [szB]⟩
  case round =>
    obtain ⟨k, hk, rfl, rfl⟩ := hrel
    by_cases hlt : k < n
    · obtain ⟨b, off, Ai, ni, ci, rfl, hbB, hc1, _, _, hy⟩ := HB.out.at_ hlt
      rw [markB_be k0 bs k (by omega)] at hy
      have hst := szB_take bs k (by omega)
      have hall := szB_take_le bs (k + 1)
      have hni : (be bs k).length = ni := (marks_len _ _).symm.trans hy.1
      rw [hni] at hy hst
      have hk2 : k0 + szB (bs.take k) + ni ≤ 4611686018427387904 := by omega
      have hkp : 0 ≤ k0 + szB (bs.take k) := by omega
      have hfin : k0 + szB (bs.take k) + ni = k0 + szB (bs.take (k + 1)) := by omega
      have HF := Lib.hid hfin
      have Y := Lib.hid hy
      clear hfin hall hst hy
      generalize hq : k0 + (szB (bs.take k) : Int) = q at *
      clear hq
      go_wp2_with fail
      refine (held_yes Ai ni ci B q _ hkp hk2 Y.out).mono ?_
      rintro e w' ⟨rfl, rfl⟩
      have hd2 : decide ((q + (ni : Int)) < 0) = false := decide_eq_false (by omega)
      go_wp2
      go_round
      case rel => exact ⟨k + 1, by omega, by go_num, by rw [← HF.out]⟩
      case measure => simp [intOf]; omega
    · go_wp2
      go_ret
      obtain rfl : k = n := by omega
      subst hx
      rw [List.take_length]
      exact ⟨rfl, rfl⟩
end Go.Proofs.Ytpgmiokdlloinaa

-- L1B: The model's copy of some bytes, of no bytes too.
namespace Go.Proofs.Ytpgmiokdlloinaa
set_option maxRecDepth 20000
set_option linter.unusedVariables false
set_option linter.unusedSimpArgs false
open Go.RowKit

theorem l1Bytes_all (A : Option Addr) (n c : Nat) (bs : List Int) (B : Nat) (w : World) (hn : n ≤ 1048576) (hA : A = none → c = 0) (hB : B ≤ w.heap.size) (hb : Byts w B A n bs) :
    Calls Try.prog 75 #[.slice A n c] w fun e w' => ∃ A' n' c', e = .returned (.slice A' n' c') ∧ Mine w' w.heap.size A' n' c' bs ∧ Below w.heap.size w w' := by
  by_cases h0 : 0 < n
  · exact l1Bytes_any A n c bs B w h0 hn hB hb
  · obtain rfl : n = 0 := by omega
    have hlen := hb.1
    obtain rfl : bs = [] := List.eq_nil_of_length_eq_zero hlen
    obtain ⟨i0, hi, hz0, hz1, hz2⟩ := info_parts Try.info5
    have HI := Lib.hid hi
    have HZ0 := Lib.hid hz0
    have HZ1 := Lib.hid hz1
    have HZ2 := Lib.hid hz2
    have E0 := Lib.hid (Mine.empty w)
    have B0 := Lib.hid ((Below.refl w.heap.size w).alloc (Nat.le_refl _) (.cells #[] 5))
    clear hi hz0 hz1 hz2 hb
    cases A with
    | none =>
      obtain rfl : c = 0 := hA rfl
      go_enter Try.func75, Try.ntmps75
      go_wp2
      go_ret
      exact ⟨_, _, _, rfl, E0.out, B0.out⟩
    | some a =>
      go_enter Try.func75, Try.ntmps75
      go_wp2_with (at_builtin; refine wpList_append_own _ rfl _ _ 64 rfl w.heap.size 5 i0 (.int .u8 0) 1 1 Try.underlying64 HI.out HZ0.out HZ1.out HZ2.out rfl (by decide) _ _ _ rfl E0.out.1 a 0 _ ([] : List Value) rfl ?e0 ?e1 ?e2 ?e3 ?e4 ?e5 ?_)
      case e0 => rfl
      case e1 => intro j u hj; simp at hj
      case e2 => intro u hu; cases hu
      case e3 => unfold maxLen; omega
      case e4 => omega
      case e5 => simp
      intro v1 w1 hown1 hgrow1 hnil1
      obtain ⟨g1, c1, rfl⟩ : ∃ g c, v1 = .slice (some ⟨g, 0, none⟩) 0 c := by
        rcases hown1.2 with ⟨e, _⟩ | ⟨g, cap, cur, e, _⟩
        · exact absurd e hnil1
        · exact ⟨g, cap, e⟩
      have hm1 : Mine w1 w.heap.size (some ⟨g1, 0, none⟩) 0 c1 [] := ⟨by simpa using hown1, by simp⟩
      have hb1 : Below w.heap.size w w1 := B0.out.grown hgrow1 (by simp) (fun g hg => (E0.out.1.lt g hg).1)
      go_wp2
      go_ret
      exact ⟨_, _, _, rfl, hm1, hb1⟩
end Go.Proofs.Ytpgmiokdlloinaa

-- NewRow: The row of a slice that grows: the old one, or one made since. No statement of the program is proved here.
namespace Go.Proofs.Ytpgmiokdlloinaa
set_option linter.unusedVariables false
open Go.RowKit

/-- the new row of a slice: that of the old one, or one made since. -/
def NewRow (w : World) (r r' : Option Nat) : Prop := ∀ g, r' = some g → r = some g ∨ w.heap.size ≤ g
theorem NewRow.refl (w : World) (r : Option Nat) : NewRow w r r := fun g h => .inl h
theorem NewRow.trans {w w' : World} {r r' r'' : Option Nat} (h : NewRow w r r') (hs : w.heap.size ≤ w'.heap.size) (k : NewRow w' r' r'') : NewRow w r r'' := fun g hg => by
  rcases k g hg with h1 | h1
  · exact h g h1
  · exact .inr (by omega)
theorem NewRow.grown {w w' w'' : World} {r r' : Option Nat} (h : NewRow w r r') (hg : w.grownBy w' r) (kg : w'.grownBy w'' r') : w.grownBy w'' r :=
  ⟨kg.os.trans hg.os, kg.tape.trans hg.tape, kg.output.trans hg.output, Nat.le_trans hg.size kg.size, fun x hx hne => (kg.block x (Nat.lt_of_lt_of_le hx hg.size) (fun e => by
    rcases h x e.symm with h1 | h1
    · exact hne h1.symm
    · omega)).trans (hg.block x hx hne)⟩
end Go.Proofs.Ytpgmiokdlloinaa

-- ProofS: The model's ProofOf.
namespace Go.Proofs.Ytpgmiokdlloinaa
set_option maxRecDepth 20000
set_option linter.unusedVariables false
set_option linter.unusedSimpArgs false
open Go.RowKit

/-- the bytes under a name. -/
def underN (cs : List (Int × List Int)) (m : Int) : List Int := (cel cs (findC cs m)).2
theorem down_all (cs : List (Int × List Int)) (f : Nat) : ∀ {root : Int} {path : List Int} {v : ByteArray} {k : Int} {way : List Int}, DownIs cs f root path v k way → ∀ m ∈ way, findC cs m < cs.length := by
  induction f with
  | zero => intro root path v k way h; exact h.elim
  | succ f ih =>
    intro root path v k way h m hm
    rcases h with ⟨_, _, _, rfl⟩ | ⟨_, nd, b, hit, ⟨_, _, _, rfl⟩ | ⟨hb, way', rfl, h⟩⟩
    · cases hm
    · cases hm
    · have hhit : findC cs root < cs.length := by
        rcases hit with ⟨h1, _⟩ | ⟨_, _, h2⟩
        · exact h1
        · rw [h2] at hb; cases hb
      rcases List.mem_cons.1 hm with rfl | hm
      · exact hhit
      · rcases h with ⟨r, _, _, _, rfl⟩ | ⟨r, _, h⟩
        · cases hm
        · exact ih h m hm
theorem hit_fine {cs : List (Int × List Int)} {x : Int} {nd : MNode} (h : HitIs cs x nd true) : nodeOk nd = true ∧ NodeWf nd := by
  rcases h with ⟨_, ⟨_, h, h2, _⟩ | ⟨h, _⟩⟩ | ⟨_, _, h⟩
  · exact ⟨h, h2⟩
  · cases h
  · cases h
theorem step_less (nd : MNode) (path : List Int) (r : Int × List Int) (hok : nodeOk nd = true) (h : stepAt nd path = .inr r) : r.2.length < path.length := by
  have hk := (nodeOk_parts nd hok).2.2.2
  have hc := com_le nd.path path
  unfold stepAt at h
  by_cases h1 : com nd.path path < nd.path.length ∨ (nd.kind = 1 ∧ com nd.path path < path.length)
  · rw [if_pos h1] at h; cases h
  · rw [if_neg h1] at h
    by_cases h2 : nd.kind = 1
    · rw [if_pos h2] at h; cases h
    · rw [if_neg h2] at h
      by_cases h3 : nd.kind = 2
      · rw [if_pos h3] at h
        cases h
        unfold kindOk at hk
        rw [if_neg h2, if_pos h3] at hk
        simp only [Bool.and_eq_true, decide_eq_true_eq] at hk
        simp only [List.length_drop]
        omega
      · rw [if_neg h3] at h
        cases hd : path.drop (com nd.path path) with
        | nil =>
          rw [hd] at h
          simp only at h
          split at h <;> cases h
        | cons a t =>
          rw [hd] at h
          simp only at h
          cases h
          have := congrArg List.length hd
          simp only [List.length_drop, List.length_cons] at this
          show t.length < path.length
          omega
theorem down_len (cs : List (Int × List Int)) (f : Nat) : ∀ {root : Int} {path : List Int} {v : ByteArray} {k : Int} {way : List Int}, DownIs cs f root path v k way → way.length ≤ path.length + 1 := by
  induction f with
  | zero => intro root path v k way h; exact h.elim
  | succ f ih =>
    intro root path v k way h
    rcases h with ⟨_, _, _, rfl⟩ | ⟨_, nd, b, hit, ⟨_, _, _, rfl⟩ | ⟨hb, way', rfl, h⟩⟩
    · simp
    · simp
    · rcases h with ⟨r, _, _, _, rfl⟩ | ⟨r, hs, h⟩
      · simp
      · subst hb
        have h1 := step_less nd path r (hit_fine hit).1 hs
        have h2 := ih h
        simp only [List.length_cons]
        omega
/-- what a proof is. -/
def ProofIs (cs : List (Int × List Int)) (root : Int) (key : ByteArray) (l : List (List Int)) (k : Int) : Prop :=
  (¬ (Right cs ∧ isKey (sb key) = true ∧ 0 ≤ root) ∧ l = [] ∧ k = 3) ∨
    ((Right cs ∧ isKey (sb key) = true ∧ 0 ≤ root) ∧ ∃ f v way, DownIs cs f root (pathOf (sb key)) v k way ∧ l = if k = 0 ∨ k = 1 then way.map (underN cs) else [])
theorem ProofIs.one {cs : List (Int × List Int)} {root : Int} {key : ByteArray} {l l' : List (List Int)} {k k' : Int} (h : ProofIs cs root key l k) (h' : ProofIs cs root key l' k') : l = l' ∧ k = k' := by
  rcases h with ⟨h1, rfl, rfl⟩ | ⟨h1, f, v, way, hd, rfl⟩ <;> rcases h' with ⟨h1', rfl, rfl⟩ | ⟨h1', f', v', way', hd', rfl⟩
  · exact ⟨rfl, rfl⟩
  · exact absurd h1' h1
  · exact absurd h1 h1'
  · obtain ⟨rfl, rfl, rfl⟩ := hd.one f f' hd'
    exact ⟨rfl, rfl⟩
theorem proof_bd {cs : List (Int × List Int)} {root : Int} {key : ByteArray} {l : List (List Int)} {k : Int} (h : ProofIs cs root key l k) (hm : ∀ i, (cel cs i).2.length ≤ 1048576) : l.length ≤ 9 ∧ ∀ x ∈ l, x.length ≤ 1048576 := by
  rcases h with ⟨_, rfl, _⟩ | ⟨_, f, v, way, hd, rfl⟩
  · simp
  · by_cases hk : k = 0 ∨ k = 1
    · rw [if_pos hk]
      have h1 := down_len cs f hd
      have h2 := pathOf_len (sb key)
      refine ⟨by rw [List.length_map]; omega, fun x hx => ?_⟩
      obtain ⟨m, _, rfl⟩ := List.mem_map.1 hx
      exact hm _
    · rw [if_neg hk]; simp
/-- the call answered with slices of bytes of its own, and a code. -/
def GaveProof (cs : List (Int × List Int)) (root : Int) (key : ByteArray) (w : World) (e : Ending) (w' : World) : Prop :=
  ∃ A' n' c' l k, e = .returned (.tuple #[.slice A' n' c', .int .i64 k]) ∧ ProofIs cs root key l k ∧ OwnBs w' w.heap.size w'.heap.size A' n' c' l ∧ Below w.heap.size w w'

set_option maxHeartbeats 1600000 in
theorem specProofOf_any (A : Option Addr) (n c : Nat) (cs : List (Int × List Int)) (root : Int) (key : ByteArray) (B : Nat) (w : World) (hn : n ≤ 1048576) (hm : ∀ i, (cel cs i).2.length ≤ 1048576) (hk : key.size ≤ 1048576) (hB : B ≤ w.heap.size) (hb : Cells w B A n cs) :
    Calls Try.prog 36 #[.slice A n c, .int .i64 root, .string key] w (GaveProof cs root key w) := by
  have HB := Lib.hid (hb.more hB)
  have hlen := hb.1
  clear hb
  obtain ⟨w0, hw0⟩ : ∃ w0, w.alloc (.cells #[] 64) = w0 := ⟨_, rfl⟩
  have E0 := Lib.hid (show OwnBs w0 w.heap.size w0.heap.size (some ⟨w.heap.size, 0, none⟩) 0 0 [] from hw0 ▸ (OwnBs.made0 w).more (by simp))
  have B0 := Lib.hid (show Below w.heap.size w w0 from hw0 ▸ (Below.refl _ _).alloc (Nat.le_refl _) _)
  have hs0 : w.heap.size ≤ w0.heap.size := B0.out.size
  have HW0 := Lib.hid hw0
  clear hw0
  go_enter Try.func36, Try.ntmps36
  go_wp2_with fail
  rw [HW0.out]
  refine (l5Ok_any A n c cs root key w.heap.size w0 hn hm hk hs0 (HB.out.below B0.out)).mono ?_
  rintro e w1 ⟨r, rfl, hr, b1⟩
  have HR := Lib.hid hr
  have B1 := Lib.hid (B0.out.trans (b1.mono hs0))
  have E1 := Lib.hid ((E0.out.below b1).more b1.size)
  have hs1 : w.heap.size ≤ w1.heap.size := B1.out.size
  clear hr b1 E0
  cases r with
  | false =>
    have hno := Lib.hid (fun h => absurd (HR.out.2 h) (by simp) : ¬ (Right cs ∧ isKey (sb key) = true ∧ 0 ≤ root))
    go_wp2
    go_ret2
    exact ⟨_, 0, 0, [], 3, rfl, .inl ⟨hno.out, rfl, rfl⟩, E1.out, B1.out⟩
  | true =>
    have OK := Lib.hid (HR.out.1 (by trivial))
    go_wp2_with fail
    refine (specPathOf_any key w1 hk).mono ?_
    rintro e w2 ⟨A2, n2, c2, rfl, o2, b2⟩
    have hl2 := o2.len
    have hpos : 0 < n2 := by
      have h1 := OK.out.2.1
      have h2 : pathOf (sb key) = (sb key).map wd := if_pos h1
      rw [h2] at hl2
      unfold isKey at h1
      simp at h1 hl2
      omega
    have hcap := o2.cap_'
    obtain ⟨g2, rfl, _, hg2⟩ := o2.form hpos
    have hle : n2 ≤ 1048576 := by
      have h1 := OK.out.2.1
      have h2 : pathOf (sb key) = (sb key).map wd := if_pos h1
      have h3 := sb_len key
      rw [h2] at hl2
      simp at hl2
      omega
    have O2 := Lib.hid o2
    have B2 := Lib.hid (B1.out.trans (b2.mono hs1))
    have E2 := Lib.hid ((E1.out.below b2).more b2.size)
    clear o2 b2 E1
    go_wp2_with fail
    refine (l5Down_any A n c cs root g2 0 n2 c2 (pathOf (sb key)) w2.heap.size w2 hn hm hle hcap (Nat.le_refl _) ((HB.out.below B2.out).more B2.out.size) O2.out.ints).mono ?_
    rintro e w3 ⟨v, k, g, nw, cw, way, rfl, ⟨f, hd⟩, ow, b3⟩
    have hin := down_all cs f hd
    have HD := Lib.hid hd
    have HIN := Lib.hid hin
    have hlw := ow.len
    have B3 := Lib.hid (B2.out.trans (b3.mono B2.out.size))
    have E3 := Lib.hid ((E2.out.below b3).more b3.size)
    have hs3 : w.heap.size ≤ w3.heap.size := B3.out.size
    have hgw := World.ownsRow.lt ow g (by simp [Value.ownBlock])
    have OW := Lib.hid ow
    have hs2 : w.heap.size < w2.heap.size := by have := B1.out.size; have := HR; omega
    clear hd b3 ow hin E2
    have hwl := down_len cs f HD.out
    have hpl := pathOf_len (sb key)
    have hk01 : (k = 0 ∨ k = 1) ∨ (¬ k = 0 ∧ ¬ k = 1) := by omega
    rcases hk01 with hk01 | hk01
    case inr =>
      have d1 : (k != 0) = true := by simpa using hk01.1
      have d2 : (k != 1) = true := by simpa using hk01.2
      have hl0 := Lib.hid (show ([] : List (List Int)) = if k = 0 ∨ k = 1 then way.map (underN cs) else [] from (if_neg (by omega)).symm)
      clear hk01
      go_wp2
      go_ret2
      exact ⟨_, 0, 0, [], k, rfl, .inr ⟨OK.out, f, v, way, HD.out, hl0.out⟩, E3.out, B3.out⟩
    case inl =>
      have hl1 := Lib.hid (show way.map (underN cs) = if k = 0 ∨ k = 1 then way.map (underN cs) else [] from (if_pos hk01).symm)
      have hend := Lib.hid (fun (A' : Option Addr) (n' c' : Nat) (w' : World) (o : OwnBs w' w.heap.size w'.heap.size A' n' c' (way.map (underN cs))) (b : Below w.heap.size w w') => (show GaveProof cs root key w (.returned (.tuple #[.slice A' n' c', .int .i64 k])) w' from ⟨A', n', c', _, k, rfl, .inr ⟨OK.out, f, v, way, HD.out, hl1.out⟩, o, b⟩))
      obtain ⟨i0, hi, hz0, hz1, hz2⟩ := info_parts Try.infoBs
      have HI := Lib.hid hi
      have HZ0 := Lib.hid hz0
      have HZ1 := Lib.hid hz1
      have HZ2 := Lib.hid hz2
      clear hi hz0 hz1 hz2 hl1
      have d1 : k = 0 ∨ k = 1 := hk01
      rcases hk01 with rfl | rfl
      all_goals
        clear d1
        go_wp2
        go_loopw [8, 12] (fun s i wr => ∃ j go co : Nat, j ≤ nw ∧ i = .int .i64 j ∧ s = .slice (some ⟨go, 0, none⟩) j co ∧ OwnBs wr w.heap.size wr.heap.size (some ⟨go, 0, none⟩) j co ((way.take j).map (underN cs)) ∧ w3.grownBy wr (some w.heap.size) ∧ NewRow w3 (some w.heap.size) (some go)) (fun _ i _ => nw - (intOf i).toNat)
        case atStart => exact ⟨0, w.heap.size, 0, Nat.zero_le _, rfl, rfl, by simpa using E3.out, World.grownBy.refl _ _, NewRow.refl _ _⟩
        case round =>
          obtain ⟨j, go, co, hj, rfl, rfl, oq, gr, nr⟩ := hrel
          have hsr : w3.heap.size ≤ wr.heap.size := gr.size
          have WR := Lib.hid (OW.out.touch (Touch.of_grown gr) (fun b hb e => by have : g = b := by simpa [Value.ownBlock] using hb
                                                                                 cases e; omega))
          have BR := Lib.hid (B3.out.grown gr hs3 (fun b hb => by cases hb; exact Nat.le_refl _))
          have OQ := Lib.hid oq
          have GR := Lib.hid gr
          have NR := Lib.hid nr
          clear oq gr nr
          by_cases hlt : j < nw
          · obtain ⟨bw, ow, ew, hbw, hcw⟩ := WR.out.ints.at_ hlt
            cases ew
            rw [Nat.zero_add] at hcw
            obtain ⟨m, hmm⟩ : ∃ m, way[j]?.getD 0 = m := ⟨_, rfl⟩
            have hmem : m ∈ way := by rw [← hmm, List.getElem?_eq_getElem (by omega)]; exact List.getElem_mem _
            have hfin := HIN.out m hmem
            have hst : (way.take (j + 1)).map (underN cs) = (way.take j).map (underN cs) ++ [underN cs m] := by
              rw [List.take_succ_eq_append_getElem (by omega), List.map_append, ← hmm, List.getElem?_eq_getElem (by omega)]; rfl
            rw [hmm] at hcw
            obtain ⟨bc, off, Ai, ni, ci, rfl, hbc, hc0, hc1, hcn, hca, hy⟩ := (HB.out.below BR.out).at_ (k := findC cs m) (by omega)
            have hni : ni ≤ 1048576 := by have := hm (findC cs m); have := hy.1; omega
            have Y := Lib.hid (show Byts wr w.heap.size Ai ni (underN cs m) from hy)
            have ST := Lib.hid hst
            have hfn : findC cs m < n := by omega
            have CB := Lib.hid (HB.out.below BR.out)
            obtain ⟨kf, hkf⟩ : ∃ kf, findC cs m = kf := ⟨_, rfl⟩
            have KF := Lib.hid hkf
            clear hmm hmem hfin hst hy hc0
            go_wp2_with fail
            refine (l4Find_any _ n c cs m w.heap.size wr hn CB.out).mono ?_
            rintro e w' ⟨rfl, hw'⟩
            rw [← hw']
            rw [if_pos hfn]
            rw [hkf] at hc1 hfn ⊢
            clear hw' w' hkf
            have hsw : w.heap.size ≤ wr.heap.size := by omega
            go_wp2_with fail
            refine (l1Bytes_all Ai ni ci (underN cs m) w.heap.size wr hni hca hsw Y.out).mono ?_
            rintro e w5 ⟨A5, n5, c5, rfl, m5, b5⟩
            have hs5 : wr.heap.size ≤ w5.heap.size := b5.size
            have ba : Below w5.heap.size w5 (w5.alloc (.cells #[.slice A5 n5 c5] 64)) := (Below.refl _ _).alloc (Nat.le_refl _) _
            obtain ⟨hl, hu, sl, hrow, hsub⟩ := (OQ.out.below b5).below (ba.mono hs5)
            have mx := (m5.below ba).base hsw
            have hxb : ∀ b, (Value.slice A5 n5 c5).ownBlock = some b → wr.heap.size ≤ b := fun b hb => (m5.1.lt b hb).1
            have G5 := Lib.hid (GR.out.trans (below_grow (row := some w.heap.size) (b5.trans (ba.mono hs5))))
            have hhi : wr.heap.size ≤ (w5.alloc (.cells #[.slice A5 n5 c5] 64)).heap.size := by simp; omega
            have hgo := World.ownsRow.lt hrow go (by simp [Value.ownBlock])
            go_wp2_with (at_builtin; go_loud (refine wpList_append_lies _ rfl _ _ 58 rfl w.heap.size 64 i0 (.slice none 0 0) 1 24 Try.underlying58 HI.out HZ0.out HZ1.out HZ2.out rfl (by decide) (.slice (some ⟨go, 0, none⟩) j co) j (bvs j sl) (by simp [Act.eval]) hrow ⟨w5.heap.size, 0, none⟩ 1 1 [.slice A5 n5 c5] (by simp [Act.eval]) rfl (by intro j u hj; match j, hj with | 0, hj => (simp at hj; subst hj; simp [Addr.add])) (by intro u hu; simp at hu; subst hu; rfl) (by omega) (by unfold maxLen; omega) (by omega) (by simp; omega) _ rfl ?_))
            intro g6 c6 w6 hown6 hgrow6 hwh6 hlt6
            have h6 := OwnBs.pushed hl hu hsub mx hxb hown6 hgrow6 (by simpa using hwh6) hhi (Nat.le_refl _)
            rw [← ST.out] at h6
            have H6 := Lib.hid h6
            have e6 : (Value.slice (some (⟨go, 0, none⟩ : Addr)) j co).ownBlock = some go := by simp [Value.ownBlock]
            rw [e6] at hgrow6 hwh6
            have G6 := Lib.hid (NR.out.grown G5.out hgrow6)
            have N6 := Lib.hid (show NewRow w3 (some w.heap.size) (some g6) from fun b hb => by
              cases hb
              rcases hwh6 with h | h
              · cases h; exact NR.out _ rfl
              · right; omega)
            clear hown6 hgrow6 hwh6 h6 hrow hsub mx hxb hu hl e6 hgo ba
            go_wp2
            go_roundw
            case rel => exact ⟨j + 1, g6, c6, by omega, by go_num, rfl, H6.out, G6.out, N6.out⟩
            case measure => simp [intOf]; omega
          · obtain rfl : j = nw := by omega
            have ho := OQ.out
            rw [List.take_of_length_le (by omega)] at ho
            have HO := Lib.hid ho
            clear ho
            go_wp2
            go_ret2
            exact hend.out _ _ _ _ HO.out BR.out
end Go.Proofs.Ytpgmiokdlloinaa

-- ProofB: How great a proof may be. No statement of the program is proved here.
namespace Go.Proofs.Ytpgmiokdlloinaa
set_option linter.unusedVariables false
open Go.RowKit

theorem szB_le (l : List (List Int)) (m : Nat) (h : ∀ x ∈ l, x.length ≤ m) : szB l ≤ l.length * m := by
  induction l with
  | nil => simp [szB]
  | cons x r ih =>
    have h1 := h x (List.mem_cons_self ..)
    have h2 := ih (fun y hy => h y (List.mem_cons_of_mem _ hy))
    simp only [szB, List.length_cons, Nat.add_mul, Nat.one_mul]
    omega
theorem be_le (l : List (List Int)) (m : Nat) (h : ∀ x ∈ l, x.length ≤ m) (i : Nat) : (be l i).length ≤ m := by
  unfold be
  by_cases hi : i < l.length
  · rw [List.getElem?_eq_getElem hi]; exact h _ (List.getElem_mem hi)
  · rw [List.getElem?_eq_none (by omega)]; simp
theorem proof_all {cs : List (Int × List Int)} {root : Int} {key : ByteArray} {l : List (List Int)} {k : Int} (h : ProofIs cs root key l k) (hm : ∀ i, (cel cs i).2.length ≤ 1048576) : l.length ≤ 9 ∧ (∀ i, (be l i).length ≤ 1048576) ∧ szB l ≤ 9437184 := by
  obtain ⟨h1, h2⟩ := proof_bd h hm
  have h3 := szB_le l 1048576 h2
  exact ⟨h1, be_le l _ h2, by omega⟩
end Go.Proofs.Ytpgmiokdlloinaa

-- ProofP: The program's ProofOf: for all cells, roots and keys.
namespace Go.Proofs.Ytpgmiokdlloinaa
set_option maxRecDepth 100000
set_option linter.unusedVariables false
set_option linter.unusedSimpArgs false
open Go.RowKit

theorem Try.enterCol (args : Array Value) (w : World) : (callFunc 76 args).run Try.prog w = .ok (.enter 76 args) w := by kernel_rfl
/-- the list of nodes, as it lay when the way began; block p is none of its blocks. -/
structure Lain (cs : List (Int × List Int)) (lo : Nat) (w0 : World) (p : Nat) (R : SR) (ns : List (Int × NV)) : Prop where
  lt : p < w0.heap.size
  is : NodesIs w0 lo R ns cs
  row : ¬ R.at_ p
  blk : ∀ y ∈ ns, ∀ g, NodeBlk y.2.v g → g ≠ p
theorem Lain.now {cs : List (Int × List Int)} {lo p : Nat} {w0 w : World} {R : SR} {ns : List (Int × NV)} (h : Lain cs lo w0 p R ns) (t : Touch (fun g => g = p) w0 w) : NodesIs w lo R ns cs :=
  h.is.touch t (fun g hg e => h.row (e ▸ hg)) (fun y hy g hg e => h.blk y hy g hg e)
/-- the collector: the list of nodes, and the bytes of those that were told. -/
def Coll (cs : List (Int × List Int)) (w0 : World) (p : Nat) (R : SR) (ns : List (Int × NV)) (ways : List Int) (w : World) : Prop :=
  Touch (fun g => g = p) w0 w ∧ ∃ A n c, Box w p 108 #[R.kv ns.length, R.vv ns.length, .slice A n c] ∧ OwnBs w w0.heap.size w.heap.size A n c (ways.map (underN cs))
theorem Coll.below {cs : List (Int × List Int)} {w0 : World} {p : Nat} {R : SR} {ns : List (Int × NV)} {ways : List Int} {w w' : World} (h : Coll cs w0 p R ns ways w) (b : Below w.heap.size w w') : Coll cs w0 p R ns ways w' := by
  obtain ⟨h1, A, n, c, h3, h4⟩ := h
  exact ⟨touch_more h1 b h1.size, A, n, c, h3.below b h3.lt, (h4.below b).more b.size⟩
theorem OwnBs.off_box {w w' : World} {lo hi n c g : Nat} {A : Option Addr} {bs : List (List Int)} {t : TypeId} {zs : Array Value} (h : OwnBs w lo hi A n c bs) (hb : Box w g t zs) (h1 : t ≠ 64) (h2 : t ≠ 5) (tc : Touch (fun x => x = g) w w') : OwnBs w' lo hi A n c bs := by
  obtain ⟨hl, hu, sl, hr, hs⟩ := h
  exact ⟨hl, hu, sl, own_touch hr tc (fun b hb' e => own_box_ne hr hb h1 (by rw [hb', e])), fun i hi => (hs.mine i hi).touch tc (fun b hb' e => own_box_ne (hs.mine i hi).1 hb h2 (by rw [e] at hb'; exact hb')), hs.apart, hs.other, hs.under⟩
set_option maxHeartbeats 1000000 in
theorem col_any (cs : List (Int × List Int)) (lo p : Nat) (R : SR) (ns : List (Int × NV)) (ways : List Int) (m : Int) (w0 w : World) (hr : Right cs) (hwl : ways.length ≤ 1048576) (hl : Lain cs lo w0 p R ns) (h : Coll cs w0 p R ns ways w) :
    Calls Try.prog 76 #[.pointer (some ⟨p, 0, none⟩), .int .i64 m] w fun e w' => ∃ (x : NV) (b : Bool), e = .returned (.tuple #[x.v, .bool b]) ∧ HitIs cs m x.nd b ∧ (b = true → OwnN w' lo x.v x.nd) ∧ Coll cs w0 p R ns (if b then ways ++ [m] else ways) w' ∧ Touch (fun g => g = p ∨ w0.heap.size ≤ g) w w' := by
  obtain ⟨htc, A, n, c, hx, ho⟩ := h
  obtain ⟨W, hWW⟩ : ∃ W, w0.heap.size = W := ⟨_, rfl⟩
  have hW : W ≤ w.heap.size := hWW ▸ htc.size
  have hpW : p < W := hWW ▸ hl.lt
  rw [hWW] at ho ⊢
  have hnd := hl.now htc
  have CO := Lib.hid (show Coll cs w0 p R ns ways w from ⟨htc, A, n, c, hx, hWW ▸ ho⟩)
  have LA := Lib.hid hl
  have TC := Lib.hid htc
  have WW := Lib.hid hWW
  clear hl htc hWW
  obtain ⟨w1, hw1⟩ : ∃ w1, w.alloc (.cells #[.int .i64 0, .slice none 0 0, .slice none 0 0, .string { data := #[] }] 32) = w1 := ⟨_, rfl⟩
  have x1 : Box w1 w.heap.size 32 _ := hw1 ▸ heap_alloc_new _ _
  have b1 : Below w.heap.size w w1 := hw1 ▸ (Below.refl _ _).alloc (Nat.le_refl _) _
  have s1 : w1.heap.size = w.heap.size + 1 := hw1 ▸ by simp
  have X1 := Lib.hid x1
  have B1 := Lib.hid b1
  have P1 := Lib.hid (hx.below b1 (by omega))
  have ND := Lib.hid hnd
  have OB := Lib.hid ho
  have RT := Lib.hid hr
  clear x1 b1 hx hnd ho hr
  have p2 := P1.out.cell 2
  simp at p2
  go_enter Try.func76, Try.ntmps76
  go_wp2_with fail
  refine (at_cells p lo R ns cs m w1 RT.out P1.out rfl rfl (ND.out.below B1.out)).mono ?_
  rintro e w2 ⟨x, b, rfl, hit, own, b2⟩
  have s2 := b2.size
  have HIT := Lib.hid hit
  have OWN := Lib.hid own
  have B2 := Lib.hid (B1.out.trans (b2.mono (by omega)))
  have X2 := Lib.hid (X1.out.below b2 (by omega))
  have P2 := Lib.hid (P1.out.below b2 (by omega))
  clear b2 hit own p2 hw1
  obtain ⟨Ap, mp, dp, Ak, mk, dk, nd⟩ := x
  unfold NV.v
  have NI := Lib.hid (fun e => by obtain ⟨y, hy, e⟩ := OWN.out e; have h := ND.out.own y hy; rw [e] at h; exact h : b = true → OwnN w lo (.agg #[.int .i64 nd.kind, .slice Ap mp dp, .slice Ak mk dk, .string nd.val]) nd)
  have NX := Lib.hid (fun e w' (t : Touch (fun g => g = p) w0 w') => by obtain ⟨y, hy, e⟩ := OWN.out e; have h := (LA.out.is.own y hy).touch t (LA.out.blk y hy); rw [e] at h; exact h : b = true → ∀ w', Touch (fun g => g = p) w0 w' → OwnN w' lo (.agg #[.int .i64 nd.kind, .slice Ap mp dp, .slice Ak mk dk, .string nd.val]) nd)
  have HIT := Lib.hid (show HitIs cs m nd b from HIT.out)
  obtain ⟨w5, hw5⟩ : ∃ w5, w2.alloc (.cells #[.int .i64 0, .slice none 0 0, .slice none 0 0, .string { data := #[] }] 32) = w5 := ⟨_, rfl⟩
  have x5 : Box w5 w2.heap.size 32 _ := hw5 ▸ heap_alloc_new _ _
  have b5 : Below w2.heap.size w2 w5 := hw5 ▸ (Below.refl _ _).alloc (Nat.le_refl _) _
  have q20 := x5.cell 0
  have q21 := x5.cell 1
  have q22 := x5.cell 2
  have q23 := x5.cell 3
  have f2 := x5.free
  simp at q20 q21 q22 q23
  obtain ⟨w6, hw6⟩ : ∃ w6, (((w5.setCell ⟨w2.heap.size, 0, none⟩ (.int .i64 nd.kind)).setCell ⟨w2.heap.size, 1, none⟩ (.slice Ap mp dp)).setCell ⟨w2.heap.size, 2, none⟩ (.slice Ak mk dk)).setCell ⟨w2.heap.size, 3, none⟩ (.string nd.val) = w6 := ⟨_, rfl⟩
  have h4' := set4 x5 (.int .i64 nd.kind) (.slice Ap mp dp) (.slice Ak mk dk) (.string nd.val)
  have t6 : Touch (fun b => b = w2.heap.size) w5 w6 := hw6 ▸ h4'.2
  have x6 : Box w6 w2.heap.size 32 #[.int .i64 nd.kind, .slice Ap mp dp, .slice Ak mk dk, .string nd.val] := hw6 ▸ h4'.1
  have b6 : Below w2.heap.size w2 w6 := b5.trans (t6.below b5.size (fun b hb e => by omega))
  have X6 := Lib.hid x6
  have Y6 := Lib.hid (X2.out.below b6 (by omega))
  have B6 := Lib.hid (B2.out.trans (b6.mono (by omega)))
  have P6 := Lib.hid (P2.out.below b6 (by omega))
  have hs6 : w2.heap.size < w6.heap.size := x6.lt
  clear x5 b5 h4' t6 x6 b6 B2 P2 X2
  cases b with
  | false =>
    have y20 := Y6.out.cell 0
    have y21 := Y6.out.cell 1
    have y22 := Y6.out.cell 2
    have y23 := Y6.out.cell 3
    have y2 := Y6.out.free
    have z20 := X6.out.cell 0
    have z21 := X6.out.cell 1
    have z22 := X6.out.cell 2
    have z23 := X6.out.cell 3
    simp at y20 y21 y22 y23 z20 z21 z22 z23
    have s4 := set4 Y6.out (.int .i64 nd.kind) (.slice Ap mp dp) (.slice Ak mk dk) (.string nd.val)
    have S4 := Lib.hid s4
    clear s4
    go_wp2
    refine bodyPost_ret (v := .tuple #[.agg #[.int .i64 nd.kind, .slice Ap mp dp, .slice Ak mk dk, .string nd.val], .bool false]) (results_box2 Try.results76 _ _ w.heap.size _ _ _ _ rfl rfl S4.out.1 Try.underlying32 rfl (by kernel_rfl)) rfl ?_
    have B7 : Below w.heap.size w _ := B6.out.trans (S4.out.2.below (by omega) (fun k hk e => by omega))
    exact ⟨⟨Ap, mp, dp, Ak, mk, dk, nd⟩, false, rfl, HIT.out, (fun e => by cases e), CO.out.below B7, ⟨B7.os, B7.tape, B7.output, B7.size, fun k hk _ => B7.block k hk⟩⟩
  | true =>
    go_wp2_with fail
    have x60 := fun W (h : Below w6.heap.size w6 W) k => ((X6.out.below h hs6).cell k)
    have p62 := fun W (h : Below w6.heap.size w6 W) => ((P6.out.below h (by omega)).cell 2)
    simp at p62
    have XX := Lib.hid x60
    have PQ := Lib.hid p62
    have NI := Lib.hid ((NI.out (by trivial)).below B6.out).node
    have OO := Lib.hid ((OB.out.below B6.out).more B6.out.size)
    have hnb : nodeBytes nd = underN cs m := by
      rcases HIT.out with ⟨_, ⟨_, _, _, h⟩ | ⟨h, _⟩⟩ | ⟨_, _, h⟩
      · exact h
      · cases h
      · cases h
    have NB := Lib.hid hnb
    have q0 := x60 _ (Below.refl _ _) 0
    have q1 := x60 _ (Below.refl _ _) 1
    have q2 := x60 _ (Below.refl _ _) 2
    have q3 := x60 _ (Below.refl _ _) 3
    have p2 := p62 _ (Below.refl _ _)
    simp at q0 q1 q2 q3
    have HBLK := Lib.hid (fun g (hg : (Value.slice A n c).ownBlock = some g) => (show W ≤ g ∧ g < w.heap.size by
      obtain ⟨_, hu2, _, hr2, _⟩ := OB.out
      exact ⟨(hr2.lt g hg).1, hu2 g hg⟩))
    have hn9 : n ≤ 1048576 := by have := OO.out.len; simp at this; omega
    obtain ⟨i0, hi, hz0, hz1, hz2⟩ := info_parts Try.infoBs
    have HI := Lib.hid hi
    have HZ0 := Lib.hid hz0
    have HZ1 := Lib.hid hz1
    have HZ2 := Lib.hid hz2
    have h06 : w.heap.size ≤ w6.heap.size := by omega
    clear hi hz0 hz1 hz2 x60 p62 hnb hw5 hw6 q20 q21 q22 q23 f2
    go_region_law (first
      | (refine step_append_lies _ rfl _ _ 58 rfl W 64 i0 (.slice none 0 0) 1 24 Try.underlying58 HI.out HZ0.out HZ1.out HZ2.out rfl (by decide) (.slice A n c) n (bvs n sl) (by simp [Act.eval]) hrow ⟨w7.heap.size, 0, none⟩ 1 1 [.slice A1 n1 c1] (by simp [Act.eval]) rfl (by intro j u hj; match j, hj with | 0, hj => (simp at hj; subst hj; simp [Addr.add])) (by intro u hu; simp at hu; subst hu; rfl) (by omega) (by unfold maxLen; omega) (by omega) (by simp; omega) _ rfl ?_
         intro g8 c8 w8 hown8 hgrow8 hwh8 hlt8
         have h8 := OwnBs.pushed hl hu hsub mx hxb hown8 hgrow8 (by simpa using hwh8) hhi (Nat.le_refl _)
         rw [NB.out] at h8
         have G8 := Lib.hid (Touch.of_grown hgrow8)
         have T8 := Lib.hid (show Touch (fun g => W ≤ g) w w8 from (Touch.of_below (B6.out.trans (Z7.out.mono h06))).trans (G8.out.mono fun g e => (HBLK.out g e.symm).1))
         have s8 := G8.out.size
         have s8' := Z7.out.size
         have X8 := Lib.hid ((X6.out.below Z7.out hs6).grown hgrow8 (fun e => by have := (HBLK.out _ e.symm).2; omega))
         have Y8 := Lib.hid ((Y6.out.below Z7.out (by omega)).grown hgrow8 (fun e => by have := (HBLK.out _ e.symm).2; omega))
         have P8 := Lib.hid ((P6.out.below Z7.out (by omega)).grown hgrow8 (fun e => by have := (HBLK.out _ e.symm).1; omega))
         have H8 := Lib.hid h8
         have p8 := P8.out.cell 2
         have f8 := P8.out.free 2
         simp at p8
         clear h8 hown8 hgrow8 hwh8 hrow hsub mx hxb q0 q1 q2 q3 p2)
      | (go_simp
         refine (implNodeBytes_any _ nd w6.heap.size w6.drew (Nat.le_refl _) (NI.out.below (Below.refl _ _).drew)).mono ?_
         rintro e w7 ⟨A1, n1, c1, rfl, m1, b7⟩
         have z7 : Below w6.heap.size w6 w7 := (Below.refl _ _).drew.trans b7
         have hs7 : w6.heap.size ≤ w7.heap.size := z7.size
         have q0 := XX.out w7 z7 0
         have q1 := XX.out w7 z7 1
         have q2 := XX.out w7 z7 2
         have q3 := XX.out w7 z7 3
         have p2 := PQ.out w7 z7
         have lp7 : p < w7.heap.size := by omega
         simp at q0 q1 q2 q3
         have ba : Below w7.heap.size w7 (w7.alloc (.cells #[.slice A1 n1 c1] 64)) := (Below.refl _ _).alloc (Nat.le_refl _) _
         obtain ⟨hl, hu, sl, hrow, hsub⟩ := (OO.out.below z7).below (ba.mono hs7)
         have mx := ((m1.below ba).base (show W ≤ w6.drew.heap.size from Nat.le_trans hW h06))
         have hxb : ∀ b, (Value.slice A1 n1 c1).ownBlock = some b → w6.heap.size ≤ b := fun b hb => (m1.1.lt b hb).1
         have hhi : w6.heap.size ≤ (w7.alloc (.cells #[.slice A1 n1 c1] 64)).heap.size := by simp; omega
         have Z7 := Lib.hid (z7.trans (ba.mono hs7))))
    all_goals
      obtain ⟨w9, hw9⟩ : ∃ w9, w8.setCell ⟨p, 2, none⟩ (.slice (some ⟨g8, 0, none⟩) (n + 1) c8) = w9 := ⟨_, rfl⟩
      have P9 := Lib.hid (show Box w9 p 108 #[R.kv ns.length, R.vv ns.length, .slice (some ⟨g8, 0, none⟩) (n + 1) c8] from hw9 ▸ P8.out.set_ 2 _)
      have t9 : Touch (fun g => g = p) w8 w9 := hw9 ▸ touch_set w8 p 2 _ rfl
      have b9 : Below p w8 w9 := t9.below (Nat.le_of_lt P8.out.lt) (fun k hk e => by omega)
      have H9 := Lib.hid (H8.out.touch t9 (fun b hb _ e => by omega))
      have X9 := Lib.hid (show Box w9 w2.heap.size 32 _ from (t9.block _ X8.out.lt (by omega)).trans X8.out)
      have Y9 := Lib.hid (show Box w9 w.heap.size 32 _ from (t9.block _ Y8.out.lt (by omega)).trans Y8.out)
      have s9 : w9.heap.size = w8.heap.size := by rw [← hw9]; simp
      have T9 := Lib.hid t9
      clear t9 b9
      rw [hw9]
      clear hw9 p8 f8
      have y20 := Y9.out.cell 0
      have y21 := Y9.out.cell 1
      have y22 := Y9.out.cell 2
      have y23 := Y9.out.cell 3
      have y2 := Y9.out.free
      have z20 := X9.out.cell 0
      have z21 := X9.out.cell 1
      have z22 := X9.out.cell 2
      have z23 := X9.out.cell 3
      simp at y20 y21 y22 y23 z20 z21 z22 z23
      have s4 := set4 Y9.out (.int .i64 nd.kind) (.slice Ap mp dp) (.slice Ak mk dk) (.string nd.val)
      have S4 := Lib.hid s4
      clear s4
      go_wp2
      refine bodyPost_ret (v := .tuple #[.agg #[.int .i64 nd.kind, .slice Ap mp dp, .slice Ak mk dk, .string nd.val], .bool true]) (results_box2 Try.results76 _ _ w.heap.size _ _ _ _ rfl rfl S4.out.1 Try.underlying32 rfl (by kernel_rfl)) rfl ?_
      have ta : Touch (fun g => g = p ∨ W ≤ g) w _ := ((T8.out.mono fun g h => .inr h).trans (T9.out.mono fun g h => .inl h)).trans (S4.out.2.mono fun g h => .inr (by omega))
      have tb := touch_out TC.out (WW.out.symm ▸ ta)
      refine ⟨⟨Ap, mp, dp, Ak, mk, dk, nd⟩, true, rfl, HIT.out, fun e => NX.out (by trivial) _ tb, ⟨tb, some ⟨g8, 0, none⟩, n + 1, c8, ?_, ?_⟩, ta⟩
      · exact (S4.out.2.block _ P9.out.lt (by omega)).trans P9.out
      · rw [WW.out]
        have h10 := H9.out.off_box Y9.out (by decide) (by decide) S4.out.2
        have := S4.out.2.size
        simpa using h10.more (by omega)
theorem tells_col (p lo : Nat) (w0 : World) (R : SR) (ns : List (Int × NV)) (cs : List (Int × List Int)) (hr : Right cs) (hl : Lain cs lo w0 p R ns) :
    Tells cs lo 76 p w0.heap.size (Coll cs w0 p R ns) :=
  ⟨fun _ w w' h _ b => h.below b, fun ways ri w h hW hwl => col_any cs lo p R ns ways ri w0 w hr hwl hl h⟩
theorem step_code (nd : MNode) (path : List Int) (r : ByteArray × Int) (h : stepAt nd path = .inl r) : r.2 = 0 ∨ r.2 = 1 := by
  unfold stepAt at h
  split at h
  · cases h; exact .inr rfl
  · split at h
    · cases h; exact .inl rfl
    · split at h
      · cases h
      · split at h
        · split at h
          · cases h; exact .inl rfl
          · cases h; exact .inr rfl
        · cases h
theorem down_code (cs : List (Int × List Int)) (f : Nat) : ∀ {root : Int} {path : List Int} {v : ByteArray} {k : Int} {way : List Int}, DownIs cs f root path v k way → k = 0 ∨ k = 1 ∨ k = 2 := by
  induction f with
  | zero => intro root path v k way h; exact h.elim
  | succ f ih =>
    intro root path v k way h
    rcases h with ⟨_, _, rfl, _⟩ | ⟨_, nd, b, hit, ⟨_, _, rfl, _⟩ | ⟨hb, way', rfl, h⟩⟩
    · exact .inr (.inl rfl)
    · exact .inr (.inr rfl)
    · rcases h with ⟨r, hs, _, rfl, _⟩ | ⟨r, hs, h⟩
      · rcases step_code nd path r hs with h | h
        · exact .inl h
        · exact .inr (.inl h)
      · exact ih h
set_option maxHeartbeats 1000000 in
theorem implProofOf_any (A : Option Addr) (n c : Nat) (cs : List (Int × List Int)) (root : Int) (key : ByteArray) (B : Nat) (w : World) (hn : n ≤ 1048576) (hc : n ≤ c) (hA : A = none → c = 0) (hm : ∀ i, (cel cs i).2.length ≤ 1048576) (hk : key.size ≤ 1048576) (hB : B ≤ w.heap.size) (hb : Cells w B A n cs) :
    Calls Try.prog 37 #[.slice A n c, .int .i64 root, .string key] w (GaveProof cs root key w) := by
  have HB := Lib.hid hb
  clear hb
  go_enter Try.func37, Try.ntmps37
  go_wp2_with fail
  refine (nodesOf_any A n c cs B w hn hc hA hm hB HB.out).mono ?_
  rintro e w2 ⟨R, ns, b, rfl, b2, hor⟩
  have s2 := b2.size
  have B2 := Lib.hid b2
  clear b2
  obtain ⟨w3, hw3⟩ : ∃ w3, w2.alloc (.cells #[R.kv ns.length, R.vv ns.length] 73) = w3 := ⟨_, rfl⟩
  have b3 : Below w2.heap.size w2 w3 := hw3 ▸ (Below.refl _ _).alloc (Nat.le_refl _) _
  have P3 := Lib.hid (show Box w3 w2.heap.size 73 #[R.kv ns.length, R.vv ns.length] from hw3 ▸ heap_alloc_new _ _)
  have s3 : w3.heap.size = w2.heap.size + 1 := hw3 ▸ by simp
  have B3 := Lib.hid (B2.out.trans (b3.mono s2))
  unfold SR.kv SR.vv at hw3
  unfold SR.kv SR.vv
  rcases hor with ⟨rfl, hR, hnd⟩ | ⟨rfl, hno, hR0, hp0⟩
  · have D3 := Lib.hid (hnd.below b3)
    have RT := Lib.hid hR
    clear hnd hR b3
    go_wp2_with fail
    refine (keyOk_any key w3 hk).mono ?_
    rintro e w4 ⟨rfl, b4⟩
    have s4 := b4.size
    have B4 := Lib.hid (B3.out.trans (b4.mono (by omega)))
    have P4 := Lib.hid (P3.out.below b4 (by omega))
    have D4 := Lib.hid (D3.out.below b4)
    clear b4 B3 P3 D3
    obtain ⟨ik, hik⟩ : ∃ ik, isKey (sb key) = ik := ⟨_, rfl⟩
    rw [hik]
    have IK := Lib.hid hik
    clear hik
    cases ik with
    | false =>
      go_wp2
      go_ret2
      exact ⟨none, 0, 0, [], 3, rfl, .inl ⟨(fun h => by have := h.2.1; rw [IK.out] at this; cases this), rfl, rfl⟩, OwnBs.nil _ _ _, B4.out⟩
    | true =>
      by_cases hr : root < 0
      · have hd : decide (root < 0) = true := decide_eq_true hr
        have HR := Lib.hid hr
        clear hr
        go_wp2
        go_ret2
        exact ⟨none, 0, 0, [], 3, rfl, .inl ⟨fun h => by have := h.2.2; have := HR.out; omega, rfl, rfl⟩, OwnBs.nil _ _ _, B4.out⟩
      · have hd : decide (root < 0) = false := decide_eq_false hr
        have HR := Lib.hid hr
        clear hr
        have p40 := P4.out.cell 0
        have p41 := P4.out.cell 1
        unfold SR.kv at p40
        unfold SR.vv at p41
        simp at p40 p41
        have lp4 := P4.out.lt
        have hmf : ∀ (fn : Fn) (first cap : Array Value) (w : World), (Instr.makeFunc fn first cap).run Try.prog w = .ok (.func fn first cap) w := fun _ _ _ _ => rfl
        go_wp2_with fail
        obtain ⟨wc, hwc⟩ : ∃ wc, w4.alloc (.cells #[.slice R.Ak ns.length R.ck, .slice R.Av ns.length R.cv, .slice none 0 0] 108) = wc := ⟨_, rfl⟩
        have C1 := Lib.hid (show Box wc w4.heap.size 108 #[R.kv ns.length, R.vv ns.length, .slice none 0 0] from hwc ▸ heap_alloc_new _ _)
        have bc : Below w4.heap.size w4 wc := hwc ▸ (Below.refl _ _).alloc (Nat.le_refl _) _
        have sc : wc.heap.size = w4.heap.size + 1 := hwc ▸ by simp
        have BC := Lib.hid bc
        clear bc
        rw [hwc]
        refine (pathOf_any key wc hk).mono ?_
        rintro e w5 ⟨A5, n5, c5, rfl, o5, b5⟩
        have t5 : wc.heap.size ≤ w5.heap.size := b5.size
        have BB := Lib.hid (BC.out.trans (b5.mono (by omega)))
        have C5 := Lib.hid (C1.out.below b5 (by omega))
        have LA := Lib.hid (show Lain cs w.heap.size w5 w4.heap.size R ns from ⟨by omega, D4.out.below BB.out, fun h => absurd (D4.out.sl.lt _ h).2 (Nat.lt_irrefl _), fun y hy g hg e => by have := ((D4.out.own y hy).blk hg).2; omega⟩)
        have B5 := Lib.hid (B4.out.trans (BB.out.mono (by omega)))
        obtain ⟨g5, a5, i5, l5, gl5, y5⟩ : ∃ g5, A5 = some ⟨g5, 0, none⟩ ∧ n5 ≤ c5 ∧ n5 ≤ 1048576 ∧ wc.heap.size ≤ g5 ∧ Ints w5 w5.heap.size A5 n5 (pathOf (sb key)) := by
          have hl2 := o5.len
          have h2 : pathOf (sb key) = (sb key).map wd := if_pos IK.out
          have h3 := sb_len key
          rw [h2] at hl2
          have h1 := IK.out
          unfold isKey at h1
          simp at h1 hl2
          obtain ⟨g5, rfl, hg, _⟩ := o5.form (by omega)
          exact ⟨g5, rfl, o5.cap_', by omega, hg, o5.ints⟩
        subst a5
        clear b5 P4 D4 B4 p40 p41 hwc
        go_wp2_with fail
        refine (foundBy_any _ _ _ cs root g5 0 n5 c5 w.heap.size (pathOf (sb key)) w5.heap.size w5 Try.enterCol l5 i5 (Nat.le_refl _) (by omega) (tells_col w4.heap.size w.heap.size w5 R ns cs RT.out LA.out) ⟨touch_refl _ _, none, 0, 0, C5.out, OwnBs.nil _ _ _⟩ y5).mono ?_
        rintro e w6 ⟨v, k, rfl, ⟨f, way, hd6, _, Ac, nc, cc, xc, oc⟩, t6⟩
        have B6 := Lib.hid (show Below w.heap.size w w6 from B5.out.trans (t6.below B5.out.size (fun k hk e => by omega)))
        have hk3 := down_code cs f hd6
        have HD := Lib.hid hd6
        have OC := Lib.hid (oc.base B5.out.size)
        have q2 := xc.cell 2
        simp at q2
        clear t6 oc xc hd6
        by_cases hk2 : k = 2
        · subst hk2
          go_wp2
          go_ret2
          exact ⟨none, 0, 0, [], 2, rfl, .inr ⟨⟨RT.out, IK.out, by have := HR.out; omega⟩, f, v, way, HD.out, rfl⟩, OwnBs.nil _ _ _, B6.out⟩
        · have hb2 : (k == 2) = false := by simpa using hk2
          have HK2 := Lib.hid (show way.map (underN cs) = if k = 0 ∨ k = 1 then way.map (underN cs) else [] from (if_pos (by omega)).symm)
          clear hk2 hk3
          go_wp2
          go_ret2
          exact ⟨Ac, nc, cc, _, k, rfl, .inr ⟨⟨RT.out, IK.out, by have := HR.out; omega⟩, f, v, way, HD.out, HK2.out⟩, OC.out, B6.out⟩
  · subst hR0
    subst hp0
    clear b3
    have p30 := P3.out.cell 0
    have p31 := P3.out.cell 1
    have pf := P3.out.free
    unfold SR.kv at p30
    unfold SR.vv at p31
    simp [SR0] at p30 p31
    have hno := Lib.hid hno
    simp only [SR0, List.length_nil] at hw3 ⊢
    go_wp2
    go_ret2
    have s5 := set2 P3.out (.slice none 0 0) (.slice none 0 0)
    exact ⟨none, 0, 0, [], 3, rfl, .inl ⟨fun h => hno.out h.1, rfl, rfl⟩, OwnBs.nil _ _ _, B3.out.trans (s5.2.below (by omega) (fun k hk e => by omega))⟩
end Go.Proofs.Ytpgmiokdlloinaa
