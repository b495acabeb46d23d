/- Several texts in one, in build order: ReachL, BaseM, OpenBase, CellsX, CellsY, CellC, CellA, CellP, CellW, CellO, CellL, BaseX. -/
import Derived.Test.YtdhnhgppapkikaaGreatDoorPkC
-- ReachL: The model's ReachOf: its loop.
namespace Go.Proofs.YtdhnhgppapkikaaGreatDoor
set_option maxRecDepth 20000
set_option linter.unusedVariables false
set_option linter.unusedSimpArgs false
open Go.RowKit

def lenOf : Value → Nat
  | .slice _ n _ => n
  | _ => 0
/-- what is told of the names found and of those to be looked at. -/
structure Going (cs : List (Int × List Int)) (roots out todo : List Int) (b : Bool) : Prop where
  rise : RiseI out
  reach : ∀ x, x ∈ out → Reached cs roots x
  todos : ∀ x, x ∈ todo → x = 0 ∨ Reached cs roots x
  root : ∀ r, r ∈ roots → r ≠ 0 → r ∈ out ∨ r ∈ todo
  kid : ∀ y k, y ∈ out → KidOf cs y k → k ∈ out ∨ k ∈ todo
  whole : b = true ↔ ∀ x, x ∈ out → findC cs x < cs.length
theorem Going.start (cs : List (Int × List Int)) (roots : List Int) : Going cs roots [] roots true :=
  ⟨List.Pairwise.nil, fun x h => by simp at h, fun x h => by
    by_cases h0 : x = 0
    · exact .inl h0
    · exact .inr (Reached.root h h0), fun r h _ => .inr h, fun y k h => by simp at h, ⟨fun _ x h => by simp at h, fun _ => rfl⟩⟩
theorem Going.skip {cs : List (Int × List Int)} {roots out todo : List Int} {b : Bool} {m : Int} (h : Going cs roots out (todo ++ [m]) b) (hm : m = 0 ∨ m ∈ out) : Going cs roots out todo b := by
  refine ⟨h.rise, h.reach, fun x hx => h.todos x (List.mem_append_left _ hx), fun r hr h0 => ?_, fun y k hy hk => ?_, h.whole⟩
  · rcases h.root r hr h0 with h1 | h1
    · exact .inl h1
    · rcases List.mem_append.1 h1 with h2 | h2
      · exact .inr h2
      · simp at h2
        subst h2
        rcases hm with e | e
        · exact absurd e h0
        · exact .inl e
  · rcases h.kid y k hy hk with h1 | h1
    · exact .inl h1
    · rcases List.mem_append.1 h1 with h2 | h2
      · exact .inr h2
      · simp at h2
        subst h2
        rcases hm with e | e
        · exact absurd e (kidOf_pos hk)
        · exact .inl e
theorem Going.take {cs : List (Int × List Int)} {roots out todo : List Int} {b is : Bool} {m : Int} {nd : MNode} (hR : Right cs) (h : Going cs roots out (todo ++ [m]) b) (h0 : m ≠ 0) (hm : m ∉ out) (hit : HitIs cs m nd is) :
    Going cs roots (insI out m) (todo ++ nd.kids.map (·.2)) (b && is) := by
  have hr : Reached cs roots m := by
    rcases h.todos m (by simp) with e | e
    · exact absurd e h0
    · exact e
  refine ⟨insI_rise out m h.rise hm, fun x hx => ?_, fun x hx => ?_, fun r hr' hr0 => ?_, fun y k hy hk => ?_, ?_⟩
  · rcases (insI_mem out m x).1 hx with e | e
    · rw [e]; exact hr
    · exact h.reach x e
  · rcases List.mem_append.1 hx with h1 | h1
    · exact h.todos x (List.mem_append_left _ h1)
    · obtain ⟨⟨a, k⟩, hp, rfl⟩ := List.mem_map.1 h1
      right
      cases is with
      | true => exact hr.kid ⟨nd, a, hit, hp⟩
      | false =>
        have hn : nd = node0 := by
          rcases hit with ⟨_, ⟨h, _⟩ | ⟨_, h, _⟩⟩ | ⟨_, h, _⟩
          · cases h
          · exact h
          · exact h
        rw [hn] at hp
        simp [node0] at hp
  · rcases h.root r hr' hr0 with h1 | h1
    · exact .inl ((insI_mem out m r).2 (.inr h1))
    · rcases List.mem_append.1 h1 with h2 | h2
      · exact .inr (List.mem_append_left _ h2)
      · simp at h2
        exact .inl ((insI_mem out m r).2 (.inl h2))
  · rcases (insI_mem out m y).1 hy with e | e
    · subst e
      obtain ⟨nd', a, h1, h2⟩ := hk
      obtain ⟨rfl, rfl⟩ := hit.one h1
      exact .inr (List.mem_append_right _ (List.mem_map.2 ⟨(a, k), h2, rfl⟩))
    · rcases h.kid y k e hk with h1 | h1
      · exact .inl ((insI_mem out m k).2 (.inr h1))
      · rcases List.mem_append.1 h1 with h2 | h2
        · exact .inr (List.mem_append_left _ h2)
        · simp at h2
          exact .inl ((insI_mem out m k).2 (.inl h2))
  · have hf := hit_found hR hit
    constructor
    · intro hb x hx
      have hb : b = true ∧ is = true := by simpa using hb
      rcases (insI_mem out m x).1 hx with e | e
      · rw [e]; exact hf.1 hb.2
      · exact h.whole.1 hb.1 x e
    · intro hx
      have h1 : b = true := h.whole.2 fun x hxo => hx x ((insI_mem out m x).2 (.inr hxo))
      have h2 : is = true := hf.2 (hx m ((insI_mem out m m).2 (.inl rfl)))
      simp [h1, h2]
theorem Going.done {cs : List (Int × List Int)} {roots out : List Int} {b : Bool} (h : Going cs roots out [] b) (x : Int) : x ∈ out ↔ Reached cs roots x := by
  refine ⟨h.reach x, fun hx => hx (· ∈ out) (fun r hr h0 => ?_) (fun y k hy hk => ?_)⟩
  · rcases h.root r hr h0 with h1 | h1
    · exact h1
    · simp at h1
  · rcases h.kid y k hy hk with h1 | h1
    · exact h1
    · simp at h1
theorem Going.len {cs : List (Int × List Int)} {roots out todo : List Int} {b : Bool} (h : Going cs roots out todo b) : out.length ≤ roots.length + 16 * cs.length := by
  obtain ⟨u, hu, hx⟩ := reach_bound cs roots
  exact Nat.le_trans (riseI_len out u h.rise fun x hx' => hx x (h.reach x hx')) hu
theorem hit_kids {cs : List (Int × List Int)} {m : Int} {nd : MNode} {b : Bool} (h : HitIs cs m nd b) : nd.kids.length ≤ 16 := by
  cases b with
  | true => exact kidsOk_len nd.kids (nodeOk_parts nd (hit_ok h)).2.1
  | false =>
    have hn : nd = node0 := by
      rcases h with ⟨_, ⟨h, _⟩ | ⟨_, h, _⟩⟩ | ⟨_, h, _⟩
      · cases h
      · exact h
      · exact h
    rw [hn]; simp [node0]

theorem OwnI.short {w : World} {base g q c : Nat} {xs : List Int} (h : OwnI w base (some ⟨g, 0, none⟩) (q + 1) c xs) : OwnI w base (some ⟨g, 0, none⟩) q c (xs.take q) := by
  have hl := h.len
  refine ⟨by simp; omega, ?_⟩
  rcases h.2 with ⟨e, _⟩ | ⟨g', cap, cur, e, hb, hg, hn, hc, hs, ht⟩
  · cases e
  · refine .inr ⟨g', cap, cur, ?_, hb, hg, by omega, hc, hs, ?_⟩
    · cases e; rfl
    · rw [Nat.mul_one] at ht ⊢
      rw [List.map_take, ← ht, List.take_take]
      congr 1; omega
theorem OwnI.last {w : World} {base g q c : Nat} {xs : List Int} (h : OwnI w base (some ⟨g, 0, none⟩) (q + 1) c xs) : xs = xs.take q ++ [xs[q]?.getD 0] := by
  have hl := h.len
  conv => lhs; rw [← List.take_append_drop q xs]
  rw [List.drop_eq_getElem_cons (by omega), List.getElem?_eq_getElem (by omega), List.drop_eq_nil_of_le (by omega)]
  rfl
theorem OwnI.cap {w : World} {base g n c : Nat} {xs : List Int} (h : OwnI w base (some ⟨g, 0, none⟩) n c xs) : n ≤ c := by
  rcases h.2 with ⟨e, _⟩ | ⟨g', cap, cur, e, _, _, hn, _⟩
  · cases e
  · cases e; exact hn
set_option maxHeartbeats 1600000 in
theorem l4Reach_any (A : Option Addr) (n c : Nat) (cs : List (Int × List Int)) (Ar : Option Addr) (nr cr : Nat) (roots : List Int) (B : Nat) (w : World) (hm : ∀ i, (cel cs i).2.length ≤ 1048576) (hR : Right cs) (hr : roots.length ≤ 80) (hA : Ar = none → cr = 0) (hB : B ≤ w.heap.size) (hb : Cells w B A n cs) (hbr : Ints w B Ar nr roots) :
    Calls Tryz.prog 58 #[.slice A n c, .slice Ar nr cr] w fun e w' => ∃ g n' c' l b, e = .returned (.tuple #[.slice (some ⟨g, 0, none⟩) n' c', .bool b]) ∧ Going cs roots l [] b ∧ OwnI w' w.heap.size (some ⟨g, 0, none⟩) n' c' l ∧ Below w.heap.size w w' := by
  have HB := Lib.hid (hb.more hB)
  have HBR := Lib.hid (hbr.more hB)
  have hlen := hb.1
  have hlr := hbr.1
  have RT := Lib.hid hR
  have hn80 : n ≤ 80 := by have := hR.1; omega
  clear hb hbr hR
  have b1 : Below w.heap.size w (w.alloc (.cells #[] 2)) := (Below.refl _ _).alloc (Nat.le_refl _) _
  have B1 := Lib.hid b1
  have E1 := Lib.hid (OwnI.empty w w.heap.size (Nat.le_refl _))
  clear b1
  obtain ⟨i0, hi, hz0, hz1, hz2⟩ := info_parts Tryz.infoI
  have HI := Lib.hid hi
  have HZ0 := Lib.hid hz0
  have HZ1 := Lib.hid hz1
  have HZ2 := Lib.hid hz2
  clear hi hz0 hz1 hz2
  go_enter Tryz.func58, Tryz.ntmps58
  go_wp2_with fail
  refine (l1Copy_any Ar nr cr roots w.heap.size _ (by omega) (by simp) hA (HBR.out.below B1.out)).mono ?_
  rintro e w2 ⟨g2, c2, rfl, o2, b2⟩
  have B2 := Lib.hid (B1.out.trans (b2.mono (by simp)))
  have E2 := Lib.hid (E1.out.below b2)
  have O2 := Lib.hid o2
  have hg2 : w.heap.size + 1 ≤ g2 := by have := (World.ownsRow.lt o2 g2 (by simp [Value.ownBlock])).1; simpa using this
  clear o2 b2
  go_wp2
  go_loopw [6, 7, 8] (fun o h t wr => ∃ (go no co gt nt ct : Nat) (out todo : List Int) (b : Bool), o = .slice (some ⟨go, 0, none⟩) no co ∧ h = .bool b ∧ t = .slice (some ⟨gt, 0, none⟩) nt ct ∧ go ≠ gt ∧ nt + 17 * (1360 - no) ≤ 23200 ∧
    OwnI wr w.heap.size (some ⟨go, 0, none⟩) no co out ∧ OwnI wr w.heap.size (some ⟨gt, 0, none⟩) nt ct todo ∧ Going cs roots out todo b ∧ Below w.heap.size w wr) (fun o _ t _ => lenOf t + 17 * (1360 - lenOf o))
  case atStart => exact ⟨w.heap.size, 0, 0, g2, nr, c2, [], roots, true, rfl, rfl, rfl, by omega, by omega, E2.out, O2.out.base (by simp), Going.start cs roots, B2.out⟩
  case round =>
    obtain ⟨go, no, co, gt, nt, ct, out, todo, b, rfl, rfl, rfl, hne, hbd, ho, ht, hgo, hbel⟩ := hrel
    have hlo := ho.len
    have hlt := ht.len
    have hgl := hgo.len
    have hs0 := hbel.size
    have BR := Lib.hid hbel
    have OR := Lib.hid ho
    have TR := Lib.hid ht
    have GR := Lib.hid hgo
    clear hbel ho ht hgo
    by_cases h0 : nt = 0
    · obtain rfl := h0
      obtain rfl : todo = [] := List.eq_nil_of_length_eq_zero hlt
      go_wp2
      go_ret2
      exact ⟨_, _, _, out, b, rfl, GR.out, OR.out, BR.out⟩
    · obtain ⟨q, rfl⟩ : ∃ q, nt = q + 1 := ⟨nt - 1, by omega⟩
      have hq0 := TR.out.cell (k := q) (by omega)
      have hlast := TR.out.last
      obtain ⟨m, hmq⟩ : ∃ m, todo[q]?.getD 0 = m := ⟨_, rfl⟩
      rw [hmq] at hq0 hlast
      have G1 := GR.out
      rw [hlast] at G1
      have GR := Lib.hid G1
      have hct := TR.out.cap
      have T1 := Lib.hid TR.out.short
      clear G1 TR hlast hmq
      generalize todo.take q = td at T1 GR
      have hd : decide ((0 : Int) < ((q + 1 : Nat) : Int)) = true := decide_eq_true (by omega)
      have hwk : IntKind.i64.wrap (((q + 1 : Nat) : Int) - 1) = (q : Int) := by rw [IntKind.wrap_i64]; omega
      by_cases hm0 : m = 0
      · have hb0 : (m == 0) = true := by simp [hm0]
        go_wp2
        go_roundw
        case rel => exact ⟨go, no, co, gt, q, ct, out, td, b, rfl, rfl, rfl, hne, by omega, OR.out, T1.out, GR.out.skip (.inl hm0), BR.out⟩
        case measure => simp [lenOf]
      · have hb0 : (m == 0) = false := by simpa using hm0
        have HM0 := Lib.hid hm0
        clear hm0
        have hno : no ≤ 1360 := by omega
        go_wp2_with fail
        refine (l4In_any _ no co out m _ wr (by omega) OR.out.ints).mono ?_
        rintro e w' ⟨rfl, rfl⟩
        by_cases hin : m ∈ out
        · rw [decide_eq_true hin]
          have HIN := Lib.hid hin
          clear hin
          go_wp2
          go_roundw
          case rel => exact ⟨go, no, co, gt, q, ct, out, td, b, rfl, rfl, rfl, hne, by omega, OR.out, T1.out, GR.out.skip (.inr HIN.out), BR.out⟩
          case measure => simp [lenOf]
        · rw [decide_eq_false hin]
          have HIN := Lib.hid hin
          clear hin
          go_wp2_with fail
          refine (l4Into_any go no co out m _ wr (by omega) OR.out.cap (Nat.le_refl _) OR.out.ints GR.out.rise).mono ?_
          rintro e w3 ⟨b3, h3⟩
          rcases h3 with ⟨h3, _⟩ | ⟨_, g3, c3, rfl, o3⟩
          · exact absurd h3 HIN.out
          have O3 := Lib.hid o3
          have T3 := Lib.hid (T1.out.below b3)
          have B3 := Lib.hid (BR.out.trans (b3.mono hs0))
          have hs3 : wr.heap.size ≤ w3.heap.size := b3.size
          have hg3 : wr.heap.size ≤ g3 := (World.ownsRow.lt o3 g3 (by simp [Value.ownBlock])).1
          have hgt : gt < wr.heap.size := (World.ownsRow.lt T1.out gt (by simp [Value.ownBlock])).2
          clear b3 o3 OR
          go_wp2_with fail
          refine (l4Node_any A n c cs m w.heap.size w3 (by omega) hm (by omega) (HB.out.below B3.out)).mono ?_
          rintro e w4 ⟨v, nd, is, rfl, own, hit, b4⟩
          have O4 := Lib.hid (O3.out.below b4)
          have T4 := Lib.hid (T3.out.below b4)
          have B4 := Lib.hid (B3.out.trans (b4.mono (by omega)))
          have hs4 : w3.heap.size ≤ w4.heap.size := b4.size
          have HIT := Lib.hid hit
          obtain ⟨Ap, np, cp, Ak, nk, ck, rfl, hnp, hnk, hsz, hp, hk, hap⟩ := own
          have HKK := Lib.hid hk
          have h16 := hit_kids hit
          have hkl := hk.len
          clear hp hk hap b4 hit O3 T3 T1
          obtain ⟨w5, hw5⟩ : ∃ w5, w4.alloc (.cells #[.int .i64 0, .slice none 0 0, .slice none 0 0, .string { data := #[] }] 134) = w5 := ⟨_, rfl⟩
          have x5 : Box w5 w4.heap.size _ _ := hw5 ▸ heap_alloc_new _ _
          have b5 : Below w4.heap.size w4 w5 := hw5 ▸ (Below.refl _ _).alloc (Nat.le_refl _) _
          have X5 := Lib.hid x5
          obtain ⟨w6, hw6⟩ : ∃ w6, (((w5.setCell ⟨w4.heap.size, 0, none⟩ (.int .i64 nd.kind)).setCell ⟨w4.heap.size, 1, none⟩ (.slice Ap np cp)).setCell ⟨w4.heap.size, 2, none⟩ (.slice Ak nk ck)).setCell ⟨w4.heap.size, 3, none⟩ (.string nd.val) = w6 := ⟨_, rfl⟩
          have h4' := set4 x5 (.int .i64 nd.kind) (.slice Ap np cp) (.slice Ak nk ck) (.string nd.val)
          have t6 : Touch (fun b => b = w4.heap.size) w5 w6 := hw6 ▸ h4'.2
          have x6 : Box w6 w4.heap.size 134 #[.int .i64 nd.kind, .slice Ap np cp, .slice Ak nk ck, .string nd.val] := hw6 ▸ h4'.1
          have b6 : Below w4.heap.size w4 w6 := b5.trans (t6.below b5.size (fun b hb e => by omega))
          have X6 := Lib.hid x6
          have O6 := Lib.hid (O4.out.below b6)
          have T6 := Lib.hid (T4.out.below b6)
          have K6 := Lib.hid (HKK.out.below b6)
          have B6 := Lib.hid (B4.out.trans (b6.mono (by omega)))
          have hs6 : w4.heap.size ≤ w6.heap.size := b6.size
          have q20 := X5.out.cell 0
          have q21 := X5.out.cell 1
          have q22 := X5.out.cell 2
          have q23 := X5.out.cell 3
          have f2 := X5.out.free
          have q62 := X6.out.cell 2
          simp at q20 q21 q22 q23 q62
          clear x5 b5 h4' t6 x6 b6
          cases b with
          | false =>
            have GT := Lib.hid (GR.out.take RT.out HM0.out HIN.out HIT.out)
            have hgtl : w.heap.size ≤ gt := (World.ownsRow.lt T6.out gt (by simp [Value.ownBlock])).1
            have hx4 := X6.out.lt
            go_wp2
            go_loopw [8, 12] (fun t i wr => ∃ (k gk ck' : Nat), k ≤ nk ∧ i = .int .i64 k ∧ t = .slice (some ⟨gk, 0, none⟩) (q + k) ck' ∧ (gk = gt ∨ w6.heap.size ≤ gk) ∧ OwnI wr w.heap.size (some ⟨gk, 0, none⟩) (q + k) ck' (td ++ (nd.kids.take k).map (·.2)) ∧ Touch (fun b => b = gt ∨ w6.heap.size ≤ b) w6 wr) (fun _ i _ => nk - (intOf i).toNat)
            case atStart => exact ⟨0, gt, ct, Nat.zero_le _, rfl, rfl, .inl rfl, by simpa using T6.out, Touch.of_below (Below.refl _ _)⟩
            case round =>
              obtain ⟨k, gk, ck', hkn, rfl, rfl, hgk, htk, htt⟩ := hrel
              have TK := Lib.hid htk
              have TT := Lib.hid htt
              have hsv : w6.heap.size ≤ wr.heap.size := htt.size
              have xv : Box wr w4.heap.size 134 #[.int .i64 nd.kind, .slice Ap np cp, .slice Ak nk ck, .string nd.val] := (htt.block _ hx4 (fun e => by rcases e with e | e <;> omega)).trans X6.out
              have qv := xv.cell 2
              simp at qv
              have kv' := K6.out.touch htt (fun b hb e => by have h1 := (World.ownsRow.lt HKK.out b hb); rcases e with e | e <;> omega)
              have KV := Lib.hid kv'
              have XV := Lib.hid xv
              clear htk htt xv kv' q62
              by_cases hlk : k < nk
              · obtain ⟨gb, rfl, _, _⟩ := KV.out.form (by omega)
                have hk1 := KV.out.cell1 hlk
                have hst : (nd.kids.take (k + 1)).map (·.2) = (nd.kids.take k).map (·.2) ++ [(nd.kids[k]?.getD (0, 0)).2] := by
                  rw [List.take_succ_eq_append_getElem (by omega), List.map_append, List.getElem?_eq_getElem (by omega)]; rfl
                have HST := Lib.hid hst
                obtain ⟨L, hL⟩ : ∃ L, td ++ (nd.kids.take k).map (·.2) = L := ⟨_, rfl⟩
                have TK := TK.out
                rw [hL] at TK
                have TK := Lib.hid TK
                have HL := Lib.hid hL
                clear hst hL
                generalize (nd.kids[k]?.getD (0, 0)).2 = z at hk1 HST
                go_wp2_with (at_builtin; refine wpList_append_lies _ rfl _ _ 25 rfl w.heap.size 2 i0 (.int .i64 0) 1 8 Tryz.underlying25 HI.out HZ0.out HZ1.out HZ2.out rfl (by decide) _ _ _ rfl (own_touch (S := fun _ => False) TK.out (Touch.of_below ((Below.refl _ _).alloc (Nat.le_refl _) _)) (fun _ _ h => h)) ⟨wr.heap.size, 0, none⟩ 1 1 [.int .i64 z] rfl ?bq0 ?bq1 ?bq2 (by omega) ?bq3 ?bq4 ?bq5 _ rfl ?_)
                case bq2 => first | rfl | (intro u hu; simp at hu; subst hu; rfl)
                case bq3 => unfold maxLen; omega
                case bq4 => omega
                case bq5 => first | omega | (simp; omega)
                intro g7 c7 w7 hown7 hgrow7 hor7 _
                have t7 : Touch (fun b => b = gt ∨ w6.heap.size ≤ b) wr w7 := (Touch.of_below ((Below.refl wr.heap.size wr).alloc (Nat.le_refl _) _)).trans ((Touch.of_grown hgrow7).mono (fun b e => by simp [Value.ownBlock] at e; omega))
                have h7 : g7 = gt ∨ w6.heap.size ≤ g7 := by
                  rcases hor7 with e | e <;> (try simp [Value.ownBlock] at e) <;> omega
                have o7 : OwnI w7 w.heap.size (some ⟨g7, 0, none⟩) (q + (k + 1)) c7 (td ++ (nd.kids.take (k + 1)).map (·.2)) := by
                  rw [HST.out, ← List.append_assoc, HL.out]
                  unfold OwnI
                  rw [List.map_append]
                  exact hown7
                have O7 := Lib.hid o7
                have T7 := Lib.hid (TT.out.trans t7)
                have H7 := Lib.hid h7
                clear hown7 hgrow7 hor7 t7 o7 h7 qv hk1
                go_wp2
                go_roundw
                case rel => exact ⟨k + 1, g7, c7, by omega, by go_num, rfl, H7.out, O7.out, T7.out⟩
                case measure => simp [intOf]; omega
              · obtain rfl : k = nk := by omega
                have o8 := O6.out.touch TT.out (fun b hb e => by
                  have h1 : g3 = b := by simpa [Value.ownBlock] using hb
                  have h2 := (World.ownsRow.lt O6.out b hb).2
                  rcases e with e | e <;> omega)
                have b8 := B6.out.trans (TT.out.below (show w.heap.size ≤ w6.heap.size by omega) (fun b hb e => by rcases e with e | e <;> omega))
                have tk8 := TK.out
                rw [List.take_of_length_le (by omega)] at tk8
                have O8 := Lib.hid (OwnI.base o8 hs0)
                have B8 := Lib.hid b8
                have T8 := Lib.hid tk8
                have hg38 : g3 < w6.heap.size := (World.ownsRow.lt O6.out g3 (by simp [Value.ownBlock])).2
                clear o8 b8 tk8
                have hon := GT.out.len
                have hol := insI_len out m
                go_wp2
                go_roundw
                case rel => exact ⟨g3, no + 1, c3, gk, q + k, ck', insI out m, td ++ nd.kids.map (·.2), _, rfl, rfl, rfl, by rcases hgk with e | e <;> omega, by omega, O8.out, T8.out, GT.out, B8.out⟩
                case measure => simp [lenOf]; omega
          | true =>
            have GT := Lib.hid (GR.out.take RT.out HM0.out HIN.out HIT.out)
            have hgtl : w.heap.size ≤ gt := (World.ownsRow.lt T6.out gt (by simp [Value.ownBlock])).1
            have hx4 := X6.out.lt
            go_wp2
            go_loopw [8, 12] (fun t i wr => ∃ (k gk ck' : Nat), k ≤ nk ∧ i = .int .i64 k ∧ t = .slice (some ⟨gk, 0, none⟩) (q + k) ck' ∧ (gk = gt ∨ w6.heap.size ≤ gk) ∧ OwnI wr w.heap.size (some ⟨gk, 0, none⟩) (q + k) ck' (td ++ (nd.kids.take k).map (·.2)) ∧ Touch (fun b => b = gt ∨ w6.heap.size ≤ b) w6 wr) (fun _ i _ => nk - (intOf i).toNat)
            case atStart => exact ⟨0, gt, ct, Nat.zero_le _, rfl, rfl, .inl rfl, by simpa using T6.out, Touch.of_below (Below.refl _ _)⟩
            case round =>
              obtain ⟨k, gk, ck', hkn, rfl, rfl, hgk, htk, htt⟩ := hrel
              have TK := Lib.hid htk
              have TT := Lib.hid htt
              have hsv : w6.heap.size ≤ wr.heap.size := htt.size
              have xv : Box wr w4.heap.size 134 #[.int .i64 nd.kind, .slice Ap np cp, .slice Ak nk ck, .string nd.val] := (htt.block _ hx4 (fun e => by rcases e with e | e <;> omega)).trans X6.out
              have qv := xv.cell 2
              simp at qv
              have kv' := K6.out.touch htt (fun b hb e => by have h1 := (World.ownsRow.lt HKK.out b hb); rcases e with e | e <;> omega)
              have KV := Lib.hid kv'
              have XV := Lib.hid xv
              clear htk htt xv kv' q62
              by_cases hlk : k < nk
              · obtain ⟨gb, rfl, _, _⟩ := KV.out.form (by omega)
                have hk1 := KV.out.cell1 hlk
                have hst : (nd.kids.take (k + 1)).map (·.2) = (nd.kids.take k).map (·.2) ++ [(nd.kids[k]?.getD (0, 0)).2] := by
                  rw [List.take_succ_eq_append_getElem (by omega), List.map_append, List.getElem?_eq_getElem (by omega)]; rfl
                have HST := Lib.hid hst
                obtain ⟨L, hL⟩ : ∃ L, td ++ (nd.kids.take k).map (·.2) = L := ⟨_, rfl⟩
                have TK := TK.out
                rw [hL] at TK
                have TK := Lib.hid TK
                have HL := Lib.hid hL
                clear hst hL
                generalize (nd.kids[k]?.getD (0, 0)).2 = z at hk1 HST
                go_wp2_with (at_builtin; refine wpList_append_lies _ rfl _ _ 25 rfl w.heap.size 2 i0 (.int .i64 0) 1 8 Tryz.underlying25 HI.out HZ0.out HZ1.out HZ2.out rfl (by decide) _ _ _ rfl (own_touch (S := fun _ => False) TK.out (Touch.of_below ((Below.refl _ _).alloc (Nat.le_refl _) _)) (fun _ _ h => h)) ⟨wr.heap.size, 0, none⟩ 1 1 [.int .i64 z] rfl ?cq0 ?cq1 ?cq2 (by omega) ?cq3 ?cq4 ?cq5 _ rfl ?_)
                case cq2 => first | rfl | (intro u hu; simp at hu; subst hu; rfl)
                case cq3 => unfold maxLen; omega
                case cq4 => omega
                case cq5 => first | omega | (simp; omega)
                intro g7 c7 w7 hown7 hgrow7 hor7 _
                have t7 : Touch (fun b => b = gt ∨ w6.heap.size ≤ b) wr w7 := (Touch.of_below ((Below.refl wr.heap.size wr).alloc (Nat.le_refl _) _)).trans ((Touch.of_grown hgrow7).mono (fun b e => by simp [Value.ownBlock] at e; omega))
                have h7 : g7 = gt ∨ w6.heap.size ≤ g7 := by
                  rcases hor7 with e | e <;> (try simp [Value.ownBlock] at e) <;> omega
                have o7 : OwnI w7 w.heap.size (some ⟨g7, 0, none⟩) (q + (k + 1)) c7 (td ++ (nd.kids.take (k + 1)).map (·.2)) := by
                  rw [HST.out, ← List.append_assoc, HL.out]
                  unfold OwnI
                  rw [List.map_append]
                  exact hown7
                have O7 := Lib.hid o7
                have T7 := Lib.hid (TT.out.trans t7)
                have H7 := Lib.hid h7
                clear hown7 hgrow7 hor7 t7 o7 h7 qv hk1
                go_wp2
                go_roundw
                case rel => exact ⟨k + 1, g7, c7, by omega, by go_num, rfl, H7.out, O7.out, T7.out⟩
                case measure => simp [intOf]; omega
              · obtain rfl : k = nk := by omega
                have o8 := O6.out.touch TT.out (fun b hb e => by
                  have h1 : g3 = b := by simpa [Value.ownBlock] using hb
                  have h2 := (World.ownsRow.lt O6.out b hb).2
                  rcases e with e | e <;> omega)
                have b8 := B6.out.trans (TT.out.below (show w.heap.size ≤ w6.heap.size by omega) (fun b hb e => by rcases e with e | e <;> omega))
                have tk8 := TK.out
                rw [List.take_of_length_le (by omega)] at tk8
                have O8 := Lib.hid (OwnI.base o8 hs0)
                have B8 := Lib.hid b8
                have T8 := Lib.hid tk8
                have hg38 : g3 < w6.heap.size := (World.ownsRow.lt O6.out g3 (by simp [Value.ownBlock])).2
                clear o8 b8 tk8
                have hon := GT.out.len
                have hol := insI_len out m
                go_wp2
                go_roundw
                case rel => exact ⟨g3, no + 1, c3, gk, q + k, ck', insI out m, td ++ nd.kids.map (·.2), _, rfl, rfl, rfl, by rcases hgk with e | e <;> omega, by omega, O8.out, T8.out, GT.out, B8.out⟩
                case measure => simp [lenOf]; omega
end Go.Proofs.YtdhnhgppapkikaaGreatDoor

-- BaseM: Plain facts on a base: what is kept, when it is right. No statement of the program is proved here.
namespace Go.Proofs.YtdhnhgppapkikaaGreatDoor
set_option maxRecDepth 20000
set_option linter.unusedVariables false
set_option linter.unusedSimpArgs false
open Go.RowKit

/-- a base. -/
structure MBase where
  cells : List (Int × List Int)
  head : Int
  pins : List Int
  phase : Int
  grey : List Int
  black : List Int
  cursor : Int
/-- the head and the pins, without 0. -/
def keptOf (b : MBase) : List Int := if b.head = 0 ∨ b.head ∈ b.pins then b.pins else insI b.pins b.head
/-- all that is reached from these is there. -/
def Whole (cs : List (Int × List Int)) (roots : List Int) : Prop := ∀ x, Reached cs roots x → findC cs x < cs.length
/-- all of these are names of cells. -/
def Named (cs : List (Int × List Int)) (l : List Int) : Prop := ∀ x, x ∈ l → findC cs x < cs.length
/-- right while it marks. -/
structure MarkOk (b : MBase) : Prop where
  names : Named b.cells (b.grey ++ b.black)
  apart : (b.grey ++ b.black).Nodup
  cursor : b.cursor = 0
  whole : Whole b.cells b.grey
  kept : ∀ x, x ∈ keptOf b → x ∈ b.grey ++ b.black
  kids : ∀ y k, y ∈ b.black → KidOf b.cells y k → k ∈ b.grey ++ b.black
/-- right while it sweeps. -/
structure SweepOk (b : MBase) : Prop where
  grey : b.grey = []
  cursor : 0 ≤ b.cursor
  names : Named b.cells b.black
  all : ∀ x, Reached b.cells (keptOf b) x → x ∈ b.black
/-- right, whatever the phase. -/
structure PreOk (b : MBase) : Prop where
  cells : Right b.cells
  head : 0 ≤ b.head
  rise : RiseI b.pins
  pos : ∀ x, x ∈ b.pins → 1 ≤ x
  few : b.pins.length ≤ 6
  black : RiseI b.black
  whole : Whole b.cells (keptOf b)
/-- right as the document has it. -/
def BaseGood (b : MBase) : Prop := PreOk b ∧ ((b.phase = 0 ∧ b.grey = [] ∧ b.black = [] ∧ b.cursor = 0) ∨ (b.phase = 1 ∧ MarkOk b) ∨ (b.phase = 2 ∧ SweepOk b))

theorem rise_pos (l : List Int) (h : RiseI l) : (∀ x, x ∈ l → 1 ≤ x) ↔ (0 < l.length → (1 : Int) ≤ l[0]?.getD 0) := by
  constructor
  · intro hp h0
    refine hp _ ?_
    rw [List.getElem?_eq_getElem h0]
    exact List.getElem_mem _
  · intro hp x hx
    obtain ⟨i, hi, rfl⟩ := List.mem_iff_getElem.1 hx
    have h1 := hp (by omega)
    have hx' : l[i]?.getD 0 = l[i] := by rw [List.getElem?_eq_getElem hi]; rfl
    rw [← hx']
    rcases Nat.eq_zero_or_pos i with e | e
    · subst e; exact h1
    · have h2 := riseI_at l h 0 i e hi
      omega
theorem riseI_nodup (l : List Int) (h : RiseI l) : l.Nodup := by
  refine List.Pairwise.imp ?_ h
  intro a b h e
  omega
theorem keptOf_rise (b : MBase) (h : RiseI b.pins) : RiseI (keptOf b) := by
  unfold keptOf
  split
  · exact h
  · rename_i h1
    exact insI_rise _ _ h (fun h2 => h1 (.inr h2))
theorem keptOf_mem (b : MBase) (x : Int) : x ∈ keptOf b ↔ x ∈ b.pins ∨ (x = b.head ∧ b.head ≠ 0) := by
  unfold keptOf
  split
  · rename_i h
    constructor
    · exact .inl
    · rintro (h1 | ⟨rfl, h1⟩)
      · exact h1
      · rcases h with h | h
        · exact absurd h h1
        · exact h
  · rename_i h
    rw [insI_mem]
    constructor
    · rintro (h1 | h1)
      · exact .inr ⟨h1, fun e => h (.inl e)⟩
      · exact .inl h1
    · rintro (h1 | ⟨h1, _⟩)
      · exact .inr h1
      · exact .inl h1
theorem keptOf_len (b : MBase) : (keptOf b).length ≤ b.pins.length + 1 := by
  unfold keptOf
  split
  · omega
  · rw [insI_len]; omega
/-- names of cells that are not alike are no more than the cells. -/
theorem named_len (cs : List (Int × List Int)) (l : List Int) (hn : l.Nodup) (h : Named cs l) : l.length ≤ cs.length := by
  have h2 : ∀ x, x ∈ l → x ∈ cs.map (·.1) := by
    intro x hx
    have h1 := h x hx
    have h3 := findC_is cs x h1
    rw [← h3]
    exact List.mem_map_of_mem (cel_mem cs _ h1)
  have := (List.nodup_iff_count.1 hn)
  have hsub : l.length ≤ (cs.map (·.1)).length := by
    clear h this
    generalize cs.map (·.1) = u at h2
    induction l generalizing u with
    | nil => simp
    | cons x l ih =>
      have h1 := List.nodup_cons.1 hn
      have hx := h2 x (by simp)
      have := ih h1.2 (u.erase x) (fun y hy => (List.mem_erase_of_ne (fun e => h1.1 (by rw [e] at hy; exact hy))).2 (h2 y (List.mem_cons_of_mem _ hy)))
      rw [List.length_erase_of_mem hx] at this
      have hp : 0 < u.length := List.length_pos_of_mem hx
      simp only [List.length_cons]
      omega
  simpa using hsub
theorem named_take (l : List Int) (k : Nat) (hk : k < l.length) (h : (l.take k).Nodup) (h1 : l[k]?.getD 0 ∉ l.take k) : (l.take (k + 1)).Nodup := by
  rw [List.take_succ_eq_append_getElem hk, List.nodup_append]
  rw [List.getElem?_eq_getElem hk] at h1
  refine ⟨h, by simp, ?_⟩
  intro a ha b hb
  simp at hb
  subst hb
  intro e
  exact h1 (e ▸ ha)
theorem nodup_at (l : List Int) (k : Nat) (hk : k < l.length) (h : l.Nodup) : l[k]?.getD 0 ∉ l.take k := by
  rw [List.getElem?_eq_getElem hk]
  intro h1
  obtain ⟨i, hi, e⟩ := List.mem_iff_getElem.1 h1
  rw [List.getElem_take] at e
  have hik : i < k := by simp at hi; omega
  have := List.pairwise_iff_getElem.1 h i k (by omega) hk hik
  exact this e
theorem getD_mem (l : List Int) (k : Nat) (hk : k < l.length) : l[k]?.getD 0 ∈ l := by
  rw [List.getElem?_eq_getElem hk]; exact List.getElem_mem _
theorem Going.whole_ {cs : List (Int × List Int)} {roots l : List Int} {b : Bool} (h : Going cs roots l [] b) : b = true ↔ Whole cs roots := by
  rw [h.whole]
  exact ⟨fun h1 x hx => h1 x ((h.done x).2 hx), fun h1 x hx => h1 x ((h.done x).1 hx)⟩
end Go.Proofs.YtdhnhgppapkikaaGreatDoor

-- OpenBase: A base that came in as an argument: what is known of its value.
namespace Go.Proofs.YtdhnhgppapkikaaGreatDoor
set_option maxRecDepth 20000
set_option linter.unusedVariables false
set_option linter.unusedSimpArgs false
open Go.RowKit Go.ChangeShapes Go.WideShapes Go.Joins Go.Deep

theorem array7 {α : Type} {cs : Array α} (h : cs.size = 7) : ∃ c0 c1 c2 c3 c4 c5 c6, cs = #[c0, c1, c2, c3, c4, c5, c6] := by
  obtain ⟨l⟩ := cs
  match l, h with
  | [c0, c1, c2, c3, c4, c5, c6], _ => exact ⟨c0, c1, c2, c3, c4, c5, c6, rfl⟩
section
variable {H : Type} {enc : TypeId × Value → H} {P : Program} {w : World} {base : Nat} {spare : Nat → Bool} {held : Bool}
theorem open_agg7 {r : Reach} {b0 : Nat} {t : TypeId} {f0 f1 f2 f3 f4 f5 f6 : Field} {v : Value} {d : DataW H} {p : List MemPlace} (hs : P.underlying t = some (.struct #[f0, f1, f2, f3, f4, f5, f6])) (hone : oneCellFields P #[f0, f1, f2, f3, f4, f5, f6] = true) (hC : P.cellsOf t = 7)
    (hv : Value.okWide P w r b0 t v) (h : DataW.Trod enc P w base spare held t v d p) :
    ∃ (v0 v1 v2 v3 v4 v5 v6 : Value) (y0 y1 y2 y3 y4 y5 y6 : DataW H × List MemPlace) (n : Nat), v = .agg #[v0, v1, v2, v3, v4, v5, v6] ∧
      DataW.trod enc P w base spare held n f0.type [v0] = some y0 ∧ DataW.trod enc P w base spare held n f1.type [v1] = some y1 ∧ DataW.trod enc P w base spare held n f2.type [v2] = some y2 ∧ DataW.trod enc P w base spare held n f3.type [v3] = some y3 ∧
      DataW.trod enc P w base spare held n f4.type [v4] = some y4 ∧ DataW.trod enc P w base spare held n f5.type [v5] = some y5 ∧ DataW.trod enc P w base spare held n f6.type [v6] = some y6 := by
  obtain ⟨cs, rfl, hsz⟩ := okWide_struct hs hv
  obtain ⟨c0, c1, c2, c3, c4, c5, c6, rfl⟩ := array7 (hsz.trans hC)
  obtain ⟨fuel, hf⟩ := h
  obtain ⟨xs, n, _, _, hl, hlen, hf⟩ := DataW.trod_struct hs hf
  match xs, hlen with
  | [y0, y1, y2, y3, y4, y5, y6], _ =>
    obtain ⟨o0, k0⟩ := hone_of hone 0 f0 rfl
    obtain ⟨o1, k1⟩ := hone_of hone 1 f1 rfl
    obtain ⟨o2, k2⟩ := hone_of hone 2 f2 rfl
    obtain ⟨o3, k3⟩ := hone_of hone 3 f3 rfl
    obtain ⟨o4, k4⟩ := hone_of hone 4 f4 rfl
    obtain ⟨o5, k5⟩ := hone_of hone 5 f5 rfl
    obtain ⟨o6, k6⟩ := hone_of hone 6 f6 rfl
    have h0 := hf 0 f0 rfl
    have h1 := hf 1 f1 rfl
    have h2 := hf 2 f2 rfl
    have h3 := hf 3 f3 rfl
    have h4 := hf 4 f4 rfl
    have h5 := hf 5 f5 rfl
    have h6 := hf 6 f6 rfl
    exact ⟨c0, c1, c2, c3, c4, c5, c6, y0, y1, y2, y3, y4, y5, y6, n, rfl, by simpa [Value.cells, o0, k0] using h0, by simpa [Value.cells, o1, k1] using h1, by simpa [Value.cells, o2, k2] using h2, by simpa [Value.cells, o3, k3] using h3,
      by simpa [Value.cells, o4, k4] using h4, by simpa [Value.cells, o5, k5] using h5, by simpa [Value.cells, o6, k6] using h6⟩
end

/-- where the lists of a base lie. -/
structure BLay where
  A : Option Addr
  n : Nat
  c : Nat
  Ap : Option Addr
  np : Nat
  cp : Nat
  Ag : Option Addr
  ng : Nat
  cg : Nat
  Ab : Option Addr
  nb : Nat
  cb : Nat
def BLay.v (L : BLay) (b : MBase) : Value :=
  .agg #[.slice L.A L.n L.c, .int .i64 b.head, .slice L.Ap L.np L.cp, .int .i64 b.phase, .slice L.Ag L.ng L.cg, .slice L.Ab L.nb L.cb, .int .i64 b.cursor]
/-- the lists that lie so read as those of the base b, below block B. -/
structure BaseIn (w : World) (B : Nat) (L : BLay) (b : MBase) : Prop where
  cells : Cells w B L.A L.n b.cells
  pins : Ints w B L.Ap L.np b.pins
  grey : Ints w B L.Ag L.ng b.grey
  black : Ints w B L.Ab L.nb b.black
section
variable {w w' : World} {B B' : Nat} {L : BLay} {b : MBase}
theorem BaseIn.keep (h : BaseIn w B L b) (hk : ∀ p : Addr, p.block < B → w'.cell? p = w.cell? p) : BaseIn w' B L b := ⟨h.cells.keep hk, h.pins.keep hk, h.grey.keep hk, h.black.keep hk⟩
theorem BaseIn.more (h : BaseIn w B L b) (hB : B ≤ B') : BaseIn w B' L b := ⟨h.cells.more hB, h.pins.more hB, h.grey.more hB, h.black.more hB⟩
theorem BaseIn.below (h : BaseIn w B L b) (hb : Below B w w') : BaseIn w' B L b := h.keep fun _ hp => hb.cell hp
theorem BaseIn.drewN (h : BaseIn w B L b) (k : Nat) : BaseIn (w.drewN k) B L b := h.below (below_drewN (Below.refl _ _) k)
theorem BaseIn.alloc (h : BaseIn w B L b) (hB : B ≤ w.heap.size) (o : Obj) : BaseIn (w.alloc o) B L b := h.keep fun p hp => World.cell?_alloc_lt w o p (by omega)
end
/-- the lists are of sizes that fit. -/
structure BaseFit (L : BLay) (b : MBase) : Prop where
  sum : L.n + L.np + L.ng + L.nb ≤ 1048576
  cell : ∀ i, (cel b.cells i).2.length ≤ 1048576
  c : L.n ≤ L.c
  cp : L.np ≤ L.cp
  cg : L.ng ≤ L.cg
  cb : L.nb ≤ L.cb
  z : L.A = none → L.c = 0
  zp : L.Ap = none → L.cp = 0
  zg : L.Ag = none → L.cg = 0
  zb : L.Ab = none → L.cb = 0
/-- the value v is a base b that came in. -/
def BaseArg (w : World) (v : Value) (b : MBase) : Prop :=
  ∃ L, v = BLay.v L b ∧ BaseIn w w.heap.size L b ∧ L.n ≤ maxLen ∧ L.np ≤ maxLen ∧ L.ng ≤ maxLen ∧ L.nb ≤ maxLen ∧ ∀ i, (cel b.cells i).2.length ≤ maxLen

theorem row_le {k : IntKind} {w : World} {a : Option Addr} {l c : Nat} {zs : List Int} (h : IsRow k w a l c zs) : l ≤ maxLen := by
  rcases h with ⟨_, rfl, _⟩ | ⟨_, _, hl, hm, _⟩
  · unfold maxLen; omega
  · omega
theorem open_base {H : Type} {enc : TypeId × Value → H} {w : World} {r : Reach} {b0 : Nat} {v : Value} {d : DataW H} {p : List MemPlace} (hv : Value.okWide Tryz.prog w r b0 39 v)
    (h : DataW.Trod enc Tryz.prog w 0 (fun _ => true) true 39 v d p) : ∃ b, BaseArg w v b := by
  obtain ⟨v0, v1, v2, v3, v4, v5, v6, y0, y1, y2, y3, y4, y5, y6, n, rfl, h0, h1, h2, h3, h4, h5, h6⟩ := open_agg7 Tryz.underlying39 (by kernel_rfl) (by kernel_rfl) hv h
  obtain ⟨cs, A, nn, c, rfl, hn, hc, hm⟩ := cells_of_trod h0
  obtain ⟨z1, e1, _⟩ := DataW.trod_int Tryz.underlying2 h1
  obtain ⟨ap, np, cp, ps, rfl, hp⟩ := row_of_trod Tryz.underlying25 Tryz.underlying2 (by kernel_rfl) h2
  obtain ⟨z3, e3, _⟩ := DataW.trod_int Tryz.underlying2 h3
  obtain ⟨ag, ng, cg, gs, rfl, hg⟩ := row_of_trod Tryz.underlying25 Tryz.underlying2 (by kernel_rfl) h4
  obtain ⟨ab, nb, cb, bs, rfl, hb⟩ := row_of_trod Tryz.underlying25 Tryz.underlying2 (by kernel_rfl) h5
  obtain ⟨z6, e6, _⟩ := DataW.trod_int Tryz.underlying2 h6
  simp at e1 e3 e6
  subst e1 e3 e6
  exact ⟨⟨cs, z1, ps.take np, z3, gs.take ng, bs.take nb, z6⟩, ⟨A, nn, c, ap, np, cp, ag, ng, cg, ab, nb, cb⟩, rfl, ⟨hc, hp.ints, hg.ints, hb.ints⟩, hn, row_le hp, row_le hg, row_le hb, hm⟩
end Go.Proofs.YtdhnhgppapkikaaGreatDoor

-- CellsX: What the helpers of the exact laws do at slices of cells.
namespace Go.Proofs.YtdhnhgppapkikaaGreatDoor
set_option maxRecDepth 20000
set_option linter.unusedVariables false
set_option linter.unusedSimpArgs false
open Go.RowKit

/-- the size of some cells, as the laws count it. -/
def szC : List (Int × List Int) → Nat
  | [] => 0
  | c :: r => 1 + c.2.length + szC r
theorem szC_append (a b : List (Int × List Int)) : szC (a ++ b) = szC a + szC b := by
  induction a with
  | nil => simp [szC]
  | cons x r ih => simp [szC, ih]; omega
theorem szC_take (cs : List (Int × List Int)) (k : Nat) (h : k < cs.length) : szC (cs.take (k + 1)) = szC (cs.take k) + 1 + (cel cs k).2.length := by
  rw [cel_take cs k h, szC_append]; simp [szC]; omega
theorem szC_take_le (cs : List (Int × List Int)) (k : Nat) : szC (cs.take k) ≤ szC cs := by
  conv => rhs; rw [← List.take_append_drop k cs, szC_append]
  omega
theorem szC_len (cs : List (Int × List Int)) : cs.length ≤ szC cs := by
  induction cs with
  | nil => simp
  | cons x r ih => simp [szC]; omega
theorem szC_cel (cs : List (Int × List Int)) (k : Nat) (h : k < cs.length) : 1 + (cel cs k).2.length ≤ szC cs := by
  have h1 := szC_take cs k h
  have h2 := szC_take_le cs (k + 1)
  omega

/-- the cells as the marks from k0 on leave them. -/
def markC (k0 : Int) : List (Int × List Int) → List (Int × List Int)
  | [] => []
  | c :: r => (k0, marks (k0 + 1) c.2.length) :: markC (k0 + 1 + c.2.length) r
theorem markC_append (k0 : Int) (a b : List (Int × List Int)) : markC k0 (a ++ b) = markC k0 a ++ markC (k0 + szC a) b := by
  induction a generalizing k0 with
  | nil => simp [markC, szC]
  | cons x r ih =>
    have e : k0 + 1 + (x.2.length : Int) + (szC r : Int) = k0 + ((1 + x.2.length + szC r : Nat) : Int) := by push_cast; omega
    simp only [List.cons_append, markC, ih, szC, e]
theorem markC_len (k0 : Int) (cs : List (Int × List Int)) : (markC k0 cs).length = cs.length := by
  induction cs generalizing k0 with
  | nil => rfl
  | cons x r ih => simp [markC, ih]
theorem markC_sz (k0 : Int) (cs : List (Int × List Int)) : szC (markC k0 cs) = szC cs := by
  induction cs generalizing k0 with
  | nil => rfl
  | cons x r ih => simp [markC, szC, ih, marks_len]
theorem markC_cel (k0 : Int) (cs : List (Int × List Int)) (k : Nat) (h : k < cs.length) : cel (markC k0 cs) k = (k0 + szC (cs.take k), marks (k0 + szC (cs.take k) + 1) (cel cs k).2.length) := by
  have e : cs = cs.take k ++ cel cs k :: cs.drop (k + 1) := by
    conv => lhs; rw [← List.take_append_drop k cs, List.drop_eq_getElem_cons h]
    unfold cel; rw [List.getElem?_eq_getElem h]; rfl
  have hl : (markC k0 (cs.take k)).length = k := by rw [markC_len]; simp; omega
  conv => lhs; unfold cel; rw [e, markC_append]
  rw [List.getElem?_append_right (by omega), hl]
  simp [markC]
/-- the cells, marked as far as the k-th. -/
def markTo (k0 : Int) (cs : List (Int × List Int)) (k : Nat) : List (Int × List Int) := markC k0 (cs.take k) ++ cs.drop k
theorem markTo_len (k0 : Int) (cs : List (Int × List Int)) (k : Nat) : (markTo k0 cs k).length = cs.length := by
  unfold markTo; rw [List.length_append, markC_len]; simp; omega
theorem markTo_cel (k0 : Int) (cs : List (Int × List Int)) (k : Nat) (h : k < cs.length) : cel (markTo k0 cs k) k = cel cs k := by
  unfold markTo cel
  have hl : (markC k0 (cs.take k)).length = k := by rw [markC_len]; simp; omega
  rw [List.getElem?_append_right (by omega), hl]
  simp
theorem markTo_step (k0 : Int) (cs : List (Int × List Int)) (k : Nat) (h : k < cs.length) : (markTo k0 cs k).set k (k0 + szC (cs.take k), marks (k0 + szC (cs.take k) + 1) (cel cs k).2.length) = markTo k0 cs (k + 1) := by
  unfold markTo
  have hl : (markC k0 (cs.take k)).length = k := by rw [markC_len]; simp; omega
  have hc : cs[k] = cel cs k := by unfold cel; rw [List.getElem?_eq_getElem h]; rfl
  rw [cel_take cs k h, markC_append, List.set_append, if_neg (by omega), hl, List.drop_eq_getElem_cons h, Nat.sub_self, List.set_cons_zero, List.append_assoc]
  rfl
theorem markTo_all (k0 : Int) (cs : List (Int × List Int)) : markTo k0 cs cs.length = markC k0 cs := by
  unfold markTo; simp

theorem szCell_any (m : Int) (A : Option Addr) (n c left : Nat) (w : World) (hn : n ≤ maxLen) (hl : left ≤ 1048576) :
    Calls Tryz.prog 68 #[.agg #[.int .i64 m, .slice A n c], .int .i64 left] w fun e w' => e = .returned (.int .i64 (if n ≤ left then ((left - n : Nat) : Int) else -1)) ∧ Below w.heap.size w w' := by
  unfold maxLen at hn
  have b0 := Lib.hid ((Below.refl w.heap.size w).alloc (Nat.le_refl _) (.cells #[.int .i64 m, .slice A n c] 106))
  have szb : ∀ W : World, Calls Tryz.prog 105 #[.slice A n c, .int .i64 left] W fun e w' => e = .returned (.int .i64 (if n ≤ left then ((left - n : Nat) : Int) else -1)) ∧ W = w' := by
    intro W
    by_cases h : n ≤ left
    · rw [if_pos h]
      go_enter Tryz.func105, Tryz.ntmps105
      go_wp2
      go_ret
      exact ⟨ret_i64 (by omega), rfl⟩
    · rw [if_neg h]
      go_enter Tryz.func105, Tryz.ntmps105
      go_wp2
      go_ret
      exact ⟨rfl, rfl⟩
  have SZ := Lib.hid szb
  clear szb
  go_enter Tryz.func68, Tryz.ntmps68
  go_wp2_with fail
  refine (SZ.out _).mono ?_
  rintro e w' ⟨rfl, rfl⟩
  by_cases h : n ≤ left
  · rw [if_pos h]
    go_wp2
    go_ret
    exact ⟨rfl, b0.out⟩
  · rw [if_neg h]
    go_wp2
    go_ret
    exact ⟨rfl, b0.out⟩
theorem szCells_any (A : Option Addr) (n c : Nat) (cs : List (Int × List Int)) (w : World) (hn : n ≤ maxLen) (hm : ∀ i, (cel cs i).2.length ≤ maxLen) (hb : Cells w w.heap.size A n cs) :
    Calls Tryz.prog 37 #[.slice A n c, .int .i64 1048576] w fun e w' => e = .returned (.int .i64 (leftOf 1048576 (szC cs))) ∧ Below w.heap.size w w' := by
  have hlen : cs.length = n := hb.1
  have HB := Lib.hid hb
  clear hb
  unfold maxLen at hn
  by_cases hbig : 1048576 < n
  · have hr : leftOf 1048576 (szC cs) = -1 := if_neg (by have := szC_len cs; omega)
    rw [hr]
    go_enter Tryz.func37, Tryz.ntmps37
    go_wp2
    go_ret
    exact ⟨rfl, Below.refl _ _⟩
  · have hle : n ≤ 1048576 := by omega
    have hwr : IntKind.i64.wrap (1048576 - (n : Int)) = ((1048576 - n : Nat) : Int) := by rw [IntKind.wrap_i64]; omega
    have hd : decide ((((1048576 - n : Nat) : Int)) < 0) = false := decide_eq_false (by omega)
    go_enter Tryz.func37, Tryz.ntmps37
    go_wp2
    go_loopw [1, 5] (fun l i wr => ∃ k x : Nat, k ≤ n ∧ i = .int .i64 k ∧ l = .int .i64 x ∧ x + n + szC (cs.take k) = 1048576 + k ∧ Below w.heap.size w wr) (fun _ i _ => n - (intOf i).toNat)
    case atStart => exact ⟨0, 1048576 - n, Nat.zero_le _, rfl, by first | rfl | (simp; omega), by simp [szC]; omega, Below.refl _ _⟩
    case round =>
      obtain ⟨k, x, hk, rfl, rfl, hx, hbel⟩ := hrel
      by_cases hlt : k < n
      · obtain ⟨b, off, Ai, ni, ci, rfl, hbB, h0, h1, _, _, hby⟩ := (HB.out.below hbel).at_ hlt
        have hni : (cel cs k).2.length = ni := hby.1
        have hnm := hm k
        have hst := szC_take cs k (by omega)
        have hall := szC_take_le cs (k + 1)
        generalize (cel cs k).1 = m0 at h0
        have BR := Lib.hid hbel
        clear hbel hby
        go_wp2_with fail
        refine (szCell_any _ _ _ _ x _ (by omega) (by omega)).mono ?_
        rintro e w1 ⟨rfl, b1⟩
        have B1 := Lib.hid (BR.out.trans (b1.mono BR.out.size))
        clear b1 h0 h1
        by_cases hq : ni ≤ x
        · rw [if_pos hq]
          have hd2 : decide ((((x - ni : Nat) : Int)) < 0) = false := decide_eq_false (by omega)
          go_wp2
          go_roundw
          case rel => exact ⟨k + 1, x - ni, by omega, by go_num, rfl, by omega, B1.out⟩
          case measure => simp [intOf]; omega
        · rw [if_neg hq]
          go_wp2
          go_ret
          have hle3 : n ≤ k + 1 + szC (cs.drop (k + 1)) := by have := szC_len (cs.drop (k + 1)); simp at this; omega
          have hsum : szC cs = szC (cs.take (k + 1)) + szC (cs.drop (k + 1)) := by rw [← szC_append, List.take_append_drop]
          exact ⟨by rw [show leftOf 1048576 (szC cs) = -1 from if_neg (by omega)]; rfl, B1.out⟩
      · obtain rfl : k = n := by omega
        have hst : cs.take k = cs := List.take_of_length_le (by omega)
        rw [hst] at hx
        go_wp2
        go_ret
        exact ⟨by rw [show leftOf 1048576 (szC cs) = ((1048576 - szC cs : Nat) : Int) from if_pos (by omega)]; exact ret_i64 (by omega), hbel⟩
end Go.Proofs.YtdhnhgppapkikaaGreatDoor

-- CellsY: What the helpers of the exact laws do at slices of cells: copied, compared, marked, held against the marks.
namespace Go.Proofs.YtdhnhgppapkikaaGreatDoor
set_option maxRecDepth 20000
set_option linter.unusedVariables false
set_option linter.unusedSimpArgs false
open Go.RowKit

theorem toCell_any (m : Int) (A : Option Addr) (n c : Nat) (bs : List Int) (B : Nat) (w : World) (hn : n ≤ 1048576) (hB : B ≤ w.heap.size) (hb : Byts w B A n bs) :
    Calls Tryz.prog 69 #[.agg #[.int .i64 m, .slice A n c]] w fun e w' => ∃ A' n' c', e = .returned (.agg #[.int .i64 m, .slice A' n' c']) ∧ Mine w' w.heap.size A' n' c' bs ∧ Below w.heap.size w w' := by
  have hn' : n ≤ 140737488355328 := by omega
  have HP := Lib.hid (hb.more hB)
  have hlen := hb.1
  clear hb
  obtain ⟨w3, hw3⟩ : ∃ w3, (((w.alloc (.cells #[.int .i64 m, .slice A n c] 106)).alloc (.cells #[.int .i64 0, .slice none 0 0] 87)).alloc
    (.cells #[.int .i64 m, .slice none 0 0] 87)) = w3 := ⟨_, rfl⟩
  have x0 : Box w3 w.heap.size _ _ := hw3 ▸ heap3_0 _ _ _ _
  have x1 : Box w3 (w.heap.size + 1) _ _ := hw3 ▸ heap3_1 _ _ _ _
  have x2 : Box w3 (w.heap.size + 1 + 1) _ _ := hw3 ▸ heap3_2 _ _ _ _
  have s3 : w3.heap.size = w.heap.size + 3 := hw3 ▸ size3 _ _ _ _
  have b3 : Below w.heap.size w w3 := hw3 ▸ below3 _ _ _ _
  have X0 := Lib.hid x0
  have X1 := Lib.hid x1
  have X2 := Lib.hid x2
  have B3 := Lib.hid b3
  have HW := Lib.hid hw3
  clear x0 x1 x2 b3 hw3
  go_enter Tryz.func69, Tryz.ntmps69
  go_wp2_with fail
  rw [HW.out]
  refine (copy_own _ _ _ bs _ w3 hn' (by omega) (HP.out.below B3.out)).mono ?_
  rintro e w4 ⟨g4, rfl, hg4, r4, b4⟩
  have s4 := b4.size
  have l4 := r4.lt
  have R4 := Lib.hid r4
  have X1 := Lib.hid (X1.out.below b4 (by omega))
  have X2 := Lib.hid (X2.out.below b4 (by omega))
  have B4 := Lib.hid (B3.out.trans (b4.mono (by omega)))
  clear r4 b4
  have q10 := X1.out.cell 0
  have q11 := X1.out.cell 1
  have q20 := X2.out.cell 0
  have q21 := X2.out.cell 1
  have f1 := X1.out.free
  have f2 := X2.out.free
  simp at q10 q11 q20 q21
  go_wp2
  have hX := ((X1.out.other (g' := w.heap.size + 1 + 1) (by omega) 1 (.slice (some ⟨g4, 0, none⟩) n n)).set_ 0 (.int .i64 m)).set_ 1 (.slice (some ⟨g4, 0, none⟩) n n)
  have hS : Touch (fun k => w.heap.size ≤ k ∧ k < w.heap.size + 3) w4 _ :=
    ((touch_set w4 (w.heap.size + 1 + 1) 1 (.slice (some ⟨g4, 0, none⟩) n n) ⟨by omega, by omega⟩).trans (touch_set _ (w.heap.size + 1) 0 (.int .i64 m) ⟨by omega, by omega⟩)).trans (touch_set _ (w.heap.size + 1) 1 (.slice (some ⟨g4, 0, none⟩) n n) ⟨by omega, by omega⟩)
  refine bodyPost_ret (v := .agg #[.int .i64 m, .slice (some ⟨g4, 0, none⟩) n n]) (results_cell_row Tryz.results69 _ _ (w.heap.size + 1) _ _ _ _ rfl hX Tryz.underlying87 rfl (by kernel_rfl)) rfl ?_
  have hle := B4.out.size
  exact ⟨_, _, _, rfl, ((row_mine R4.out hlen hg4 (by unfold maxLen; omega)).touch hS (fun g hg h => by simp [Value.ownBlock] at hg; omega)).base (by omega), B4.out.trans (hS.below hle (fun k hk h => by omega))⟩

/-- the cells as far as they are filled. -/
def filledC (cs : List (Int × List Int)) (n k : Nat) : List (Int × List Int) := cs.take k ++ List.replicate (n - k) (0, [])
theorem filledC_len (cs : List (Int × List Int)) (n k : Nat) (hk : cs.length = n) (h : k ≤ n) : (filledC cs n k).length = n := by simp [filledC]; omega
theorem filledC_set (cs : List (Int × List Int)) (n k : Nat) (hz : cs.length = n) (hk : k < n) : (filledC cs n k).set k (cel cs k) = filledC cs n (k + 1) := by
  unfold filledC
  obtain ⟨m, hm⟩ : ∃ m, n - k = m + 1 := ⟨n - k - 1, by omega⟩
  have hm' : n - (k + 1) = m := by omega
  have hl : min k cs.length = k := by omega
  rw [hm, hm', cel_take cs k (by omega)]
  simp [List.replicate_succ, hl]
theorem filledC_all (cs : List (Int × List Int)) (n : Nat) (hz : cs.length = n) : filledC cs n n = cs := by
  unfold filledC
  rw [List.take_of_length_le (by omega)]; simp
def noSub : Sub := ⟨none, 0, 0, []⟩
theorem make_cells (n : Nat) (hn : n ≤ 4398046511104) (W : World) :
    (Instr.makeSlice 24 (.int .i64 (n : Int)) (.int .i64 (n : Int))).run Tryz.prog W = .ok (.slice (some ⟨W.heap.size, 0, none⟩) n n) (W.alloc (.cells (cvs n (List.replicate n (0, [])) fun _ => noSub).toArray 87)) := by
  obtain ⟨i0, hi, hz0, hz1, hz2⟩ := info_parts Tryz.infoC
  have hr := run_make (P := Tryz.prog) W 24 87 i0 (.agg #[.int .i64 0, .slice none 0 0]) Tryz.underlying24 hi hz0 .i64 .i64 n n (by omega) (by omega) (by rw [hz2]; omega) (by omega)
  simp only [Int.toNat_natCast] at hr
  rw [hr, hz1]
  have e : madeCells (Value.agg #[.int .i64 0, .slice none 0 0]).cells (n * 2) = (cvs n (List.replicate n (0, [])) fun _ => noSub).toArray := by
    apply Array.ext
    · simp [madeCells, cvs]
    · intro i h1 h2
      have hn : i < n * 2 := by simpa [madeCells] using h1
      have hd : i / 2 < n := by omega
      simp [madeCells, cvs, Value.cells, cf, cel, hd, Sub.v, noSub]
      rcases Nat.mod_two_eq_zero_or_one i with h | h <;> simp [h]
  rw [e]
theorem OwnC.of_made (w : World) (n : Nat) (hm : n ≤ maxLen) : OwnC (w.alloc (.cells (cvs n (List.replicate n (0, [])) fun _ => noSub).toArray 87)) w.heap.size (w.heap.size + 1) (some ⟨w.heap.size, 0, none⟩) n n (List.replicate n (0, [])) := by
  refine ⟨by simp, fun b h => by simp [Value.ownBlock] at h; omega, fun _ => noSub, ?_, ?_⟩
  · refine ⟨by simp [cvs], .inr ⟨w.heap.size, n, _, rfl, Nat.le_refl _, heap_alloc_new _ _, Nat.le_refl _, hm, by simp [cvs], List.take_of_length_le (by simp [cvs])⟩⟩
  · refine ⟨fun i hi => ?_, fun i j _ _ _ b h => by simp [Sub.v, noSub, Value.ownBlock] at h, fun i _ b h => by simp [Sub.v, noSub, Value.ownBlock] at h, fun i _ b h => by simp [Sub.v, noSub, Value.ownBlock] at h⟩
    have e : cel (List.replicate n ((0 : Int), ([] : List Int))) i = (0, []) := by simp [cel, hi]
    rw [e]
    exact Mine.nil _ _
/-- the call answered with cells of its own. -/
def GaveC (w : World) (cs : List (Int × List Int)) (e : Ending) (w' : World) : Prop := ∃ A n c, e = .returned (.slice A n c) ∧ OwnC w' w.heap.size w'.heap.size A n c cs ∧ Below w.heap.size w w'

theorem copyC_any (A : Option Addr) (n c : Nat) (cs : List (Int × List Int)) (B : Nat) (w : World) (hn : n ≤ 4398046511104) (hm : ∀ i, (cel cs i).2.length ≤ 1048576) (hB : B ≤ w.heap.size) (hb : Cells w B A n cs) :
    Calls Tryz.prog 39 #[.slice A n c] w (GaveC w cs) := by
  have HB := Lib.hid hb
  have hlen := hb.1
  clear hb
  have HM := Lib.hid (make_cells n hn)
  go_enter Tryz.func39, Tryz.ntmps39
  have hmk := HM.out
  go_wp2
  clear hmk
  have M0 := Lib.hid (OwnC.of_made w n (by unfold maxLen; omega))
  go_loopw [4] (fun i wr => ∃ k : Nat, k ≤ n ∧ i = .int .i64 k ∧ OwnC wr w.heap.size wr.heap.size (some ⟨w.heap.size, 0, none⟩) n n (filledC cs n k) ∧ Below w.heap.size w wr) (fun i _ => n - (intOf i).toNat)
  case atStart => exact ⟨0, Nat.zero_le _, rfl, by simpa [filledC] using M0.out, (Below.refl _ _).alloc (Nat.le_refl _) _⟩
  case round =>
    obtain ⟨k, hk, rfl, hm', hbel⟩ := hrel
    by_cases hlt : k < n
    · obtain ⟨b, off, Ai, ni, ci, rfl, hbB, h0, h1, _, _, hby⟩ := (HB.out.below (hbel.mono hB)).at_ hlt
      have hni : (cel cs k).2.length = ni := hby.1
      have hset := filledC_set cs n k hlen hlt
      have hnm := hm k
      have hs0 := hbel.size
      generalize cel cs k = x at h0 h1 hset hby hni hnm
      have HS := Lib.hid hset
      have HY := Lib.hid hby
      clear hset hby
      have MR := Lib.hid hm'
      have BR := Lib.hid hbel
      clear hm' hbel
      go_wp2_with fail
      refine (toCell_any _ _ _ _ x.2 B _ (by omega) (by omega) HY.out).mono ?_
      rintro e w1 ⟨A1, n1, c1, rfl, m1, b1⟩
      have o1 := MR.out.below b1
      have hc0 := o1.cell0 hlt
      obtain ⟨Aj, nj, cj, hc1, _, _, _⟩ := o1.cell1 hlt
      have hf0 := o1.free (k * 2)
      have hf1 := o1.free (k * 2 + 1)
      have hp := MR.out.put x.1 (Nat.le_refl _) b1 m1 hlt (Nat.le_refl _) hs0
      rw [show ((x.1, x.2) : Int × List Int) = x by rfl, HS.out] at hp
      have S1 := Lib.hid hp
      have B1 := Lib.hid (BR.out.trans (b1.mono BR.out.size))
      have Z1 := Lib.hid hs0
      clear hp b1 o1 m1 h0 h1 hs0
      go_wp2
      go_roundw
      case rel =>
        refine ⟨k + 1, by omega, by go_num, ?_, B1.out.trans (S1.out.2.below B1.out.size (fun b hb h => by omega))⟩
        simpa using S1.out.1
      case measure => simp [intOf]; omega
    · go_wp2
      go_ret
      obtain rfl : k = n := by omega
      rw [filledC_all cs k hlen] at hm'
      exact ⟨_, k, k, rfl, hm', hbel⟩
theorem eqCell_yes (m : Int) (A A' : Option Addr) (n c c' : Nat) (bs : List Int) (B B' : Nat) (w : World) (hn : n ≤ 1048576) (hB : B ≤ w.heap.size) (hB' : B' ≤ w.heap.size) (hb : Byts w B A n bs) (hb' : Byts w B' A' n bs) :
    Calls Tryz.prog 71 #[.agg #[.int .i64 m, .slice A n c], .agg #[.int .i64 m, .slice A' n c']] w fun e w' => e = .returned (.bool true) ∧ Below w.heap.size w w' := by
  have HP := Lib.hid (hb.more hB)
  have HP' := Lib.hid (hb'.more hB')
  clear hb hb'
  obtain ⟨w3, hw3⟩ : ∃ w3, ((w.alloc (.cells #[.int .i64 m, .slice A n c] 87)).alloc (.cells #[.int .i64 m, .slice A' n c'] 87)) = w3 := ⟨_, rfl⟩
  have s3 : w3.heap.size = w.heap.size + 2 := hw3 ▸ size2 _ _ _
  have b3 : Below w.heap.size w w3 := hw3 ▸ below2 _ _ _
  have B3 := Lib.hid b3
  have HW := Lib.hid hw3
  clear b3 hw3
  go_enter Tryz.func71, Tryz.ntmps71
  go_wp2_with fail
  rw [HW.out]
  refine (like_yes _ _ _ _ _ bs _ _ w3 (by omega) (HP.out.below B3.out) (HP'.out.below B3.out)).mono ?_
  rintro e w4 ⟨rfl, q, hq⟩
  have b4 : Below w3.heap.size w3 w4 := by rw [hq]; exact below_drewN (Below.refl _ _) q
  clear hq
  have B4 := Lib.hid (B3.out.trans (b4.mono (by omega)))
  clear b4
  go_wp2
  go_ret
  exact ⟨rfl, B4.out⟩
theorem likeC_yes (A A' : Option Addr) (n c c' : Nat) (cs : List (Int × List Int)) (B B' : Nat) (w : World) (hn : n ≤ 1048576) (hm : ∀ i, (cel cs i).2.length ≤ 1048576) (hB : B ≤ w.heap.size) (hB' : B' ≤ w.heap.size) (hb : Cells w B A n cs) (hb' : Cells w B' A' n cs) :
    Calls Tryz.prog 42 #[.slice A n c, .slice A' n c'] w fun e w' => e = .returned (.bool true) ∧ Below w.heap.size w w' := by
  have HB := Lib.hid (hb.more hB)
  have HB' := Lib.hid (hb'.more hB')
  clear hb hb'
  go_enter Tryz.func42, Tryz.ntmps42
  go_wp2
  go_loopw [5] (fun i wr => ∃ k : Nat, k ≤ n ∧ i = .int .i64 k ∧ Below w.heap.size w wr) (fun i _ => n - (intOf i).toNat)
  case atStart => exact ⟨0, Nat.zero_le _, rfl, Below.refl _ _⟩
  case round =>
    obtain ⟨k, hk, rfl, hbel⟩ := hrel
    by_cases hlt : k < n
    · obtain ⟨b, off, Ai, ni, ci, rfl, hbB, h0, h1, _, _, hy⟩ := (HB.out.below hbel).at_ hlt
      obtain ⟨b', off', Ai', ni', ci', rfl, hbB', h0', h1', _, _, hy'⟩ := (HB'.out.below hbel).at_ hlt
      have hnm := hm k
      have e1 : ni' = ni := hy'.1.symm.trans hy.1
      obtain rfl := e1
      have hl := hy.1
      generalize cel cs k = x at h0 h1 h0' h1' hy hy' hnm hl
      have Y := Lib.hid hy
      have Y' := Lib.hid hy'
      have BR := Lib.hid hbel
      clear hbel hy hy'
      go_wp2
      go_still_tail 8, (by kernel_rfl)
      change wpList _ _ _ _ _ wr.drew
      have BD := Lib.hid BR.out.drew
      have hsz := BR.out.size
      have Y := Lib.hid (Y.out.drewN 1)
      have Y' := Lib.hid (Y'.out.drewN 1)
      have e2 : wr.drewN 1 = wr.drew := rfl
      rw [e2] at Y Y'
      have hsz2 : wr.drew.heap.size = wr.heap.size := rfl
      generalize wr.drew = w2 at BD Y Y' hsz2
      clear h0 h1 h0' h1' e2
      go_wp2_with fail
      refine (eqCell_yes _ _ _ _ _ _ x.2 _ _ _ (by omega) (by omega) (by omega) Y.out Y'.out).mono ?_
      rintro e w3 ⟨rfl, b3⟩
      have B3 := Lib.hid (BD.out.trans (b3.mono BD.out.size))
      clear b3
      go_wp2
      go_roundw
      case rel => exact ⟨k + 1, by omega, by go_num, B3.out⟩
      case measure => simp [intOf]; omega
    · go_wp2
      go_ret
      exact ⟨rfl, hbel⟩

theorem markC_any (A : Option Addr) (n c lo hi : Nat) (cs : List (Int × List Int)) (k0 : Int) (w : World) (h0 : 0 ≤ k0) (h1 : k0 + szC cs ≤ 4611686018427387904) (hm : OwnC w lo hi A n c cs) :
    Calls Tryz.prog 44 #[.slice A n c, .int .i64 k0] w fun e w' => e = .returned (.int .i64 (k0 + szC cs)) ∧ OwnC w' lo hi A n c (markC k0 cs) ∧ Touch (fun b => lo ≤ b ∧ b < hi) w w' := by
  have hx := hm.len
  have hnb : n ≤ 4611686018427387904 := by have := szC_len cs; omega
  have HM := Lib.hid hm
  clear hm
  go_enter Tryz.func44, Tryz.ntmps44
  go_wp2
  go_loopw [1, 5] (fun q i wr => ∃ k : Nat, k ≤ n ∧ i = .int .i64 k ∧ q = .int .i64 (k0 + szC (cs.take k)) ∧ OwnC wr lo hi A n c (markTo k0 cs k) ∧ Touch (fun b => lo ≤ b ∧ b < hi) w wr) (fun _ i _ => n - (intOf i).toNat)
  case atStart => exact ⟨0, Nat.zero_le _, rfl, by simp [szC], by simpa [markTo, markC] using HM.out, Touch.of_below (Below.refl _ _)⟩
  case round =>
    obtain ⟨k, hk, rfl, rfl, hmr, htr⟩ := hrel
    by_cases hlt : k < n
    · obtain ⟨g, rfl, hbg, hgh, hlt'⟩ := hmr.form (by omega)
      have hc0 := hmr.cell0 hlt
      have hf0 := hmr.free (k * 2)
      have hs1 := hmr.setName (k0 + szC (cs.take k)) hlt
      have hst := szC_take cs k (by omega)
      have hall := szC_take_le cs (k + 1)
      rw [markTo_cel k0 cs k (by omega)] at hs1
      obtain ⟨Ai, ni, ci, hc1, hmi, hui, hin⟩ := hs1.inner hlt
      have hcc : cel ((markTo k0 cs k).set k (k0 + szC (cs.take k), (cel cs k).2)) k = (k0 + szC (cs.take k), (cel cs k).2) := by
        rw [cel_set _ _ _ _ (by rw [markTo_len]; omega), if_pos rfl]
      rw [hcc] at hmi hin
      have hni : (cel cs k).2.length = ni := hmi.len
      have hstep := markTo_step k0 cs k (by omega)
      have T1 := Lib.hid (htr.trans (touch_set (S := fun b => lo ≤ b ∧ b < hi) wr g (k * 2) (.int .i64 (k0 + szC (cs.take k))) ⟨hbg, hgh⟩))
      have MI := Lib.hid hmi
      have IN := Lib.hid hin
      have UI := Lib.hid hui
      have HST := Lib.hid hstep
      have HR := Lib.hid hst
      have HLN := Lib.hid hni
      have hk2 : k0 + szC (cs.take k) + 1 + ni ≤ 4611686018427387904 := by omega
      have hkp : 0 ≤ k0 + szC (cs.take k) + 1 := by omega
      have hfin : k0 + szC (cs.take k) + 1 + ni = k0 + szC (cs.take (k + 1)) := by omega
      have HF := Lib.hid hfin
      generalize hq : k0 + (szC (cs.take k) : Int) = q at *
      have HQ := Lib.hid hq
      clear hmr htr hs1 hmi hin hui hstep hst hfin hall hcc hq
      go_wp2_with fail
      refine (mark_any Ai ni ci lo _ (q + 1) _ hkp hk2 MI.out).mono ?_
      rintro e w1 ⟨rfl, m1, g1⟩
      have hc := IN.out _ _ m1 g1
      rw [List.set_set] at hc
      have hs2 := HST.out
      rw [HLN.out] at hs2
      rw [show (q, marks (q + 1) ni) = ((q, (cel cs k).2).1, marks (q + 1) ni) from rfl] at hs2
      rw [show ((q, (cel cs k).2).1, marks (q + 1) ni) = (q, marks (q + 1) ni) from rfl] at hs2
      have hc' : OwnC w1 lo hi (some ⟨g, 0, none⟩) n c (markTo k0 cs (k + 1)) := by rw [← hs2]; exact hc
      have O1 := Lib.hid hc'
      have T2 := Lib.hid (T1.out.trans ((Touch.of_grown g1).mono (fun b e => UI.out b e.symm)))
      clear hc m1 g1 hs2 hc' hc0 hc1 hf0
      go_wp2
      go_roundw
      case rel => exact ⟨k + 1, by omega, by go_num, by rw [← HF.out], O1.out, T2.out⟩
      case measure => simp [intOf]; omega
    · go_wp2
      go_ret
      obtain rfl : k = n := by omega
      subst hx
      rw [List.take_length, markTo_all] at *
      exact ⟨rfl, hmr, htr⟩
end Go.Proofs.YtdhnhgppapkikaaGreatDoor

-- CellC: Cells that are put behind others; the model's copies of bytes and of cells.
namespace Go.Proofs.YtdhnhgppapkikaaGreatDoor
set_option maxRecDepth 20000
set_option linter.unusedVariables false
set_option linter.unusedSimpArgs false
open Go.RowKit

theorem Byts.row {w : World} {B n : Nat} {A : Option Addr} {zs : List Int} (h : Byts w B A n zs) (hn : 0 < n) :
    ∃ b off, A = some ⟨b, off, none⟩ ∧ b < B ∧ ∀ j u, (zs.map (Value.int .u8))[j]? = some u → w.cell? ((⟨b, off, none⟩ : Addr).add j) = some u := by
  obtain ⟨b, off, rfl, hb, hc⟩ := h.2.2 hn
  refine ⟨b, off, rfl, hb, fun j u hj => ?_⟩
  have hadd : (⟨b, off, none⟩ : Addr).add j = ⟨b, off + j, none⟩ := by unfold Addr.add; split <;> simp_all
  have hjl : j < zs.length := by
    rcases Nat.lt_or_ge j zs.length with h | h
    · exact h
    · rw [List.getElem?_eq_none (by simpa using h)] at hj; cases hj
  have hl := h.1
  rw [hadd, hc j (by omega)]
  rw [List.getElem?_map, List.getElem?_eq_getElem hjl] at hj
  simp only [Option.map_some, Option.some.injEq] at hj
  rw [← hj]
  simp [List.getElem?_eq_getElem hjl]

/-- cells that are put behind those that the call owns. -/
theorem OwnC.pushed {w w' : World} {lo hi hi' n c n' c' g cap : Nat} {A A' : Option Addr} {cs : List (Int × List Int)} {bs : List Int} {m : Int} {sl : Nat → Sub}
    (hl : cs.length = n) (hu : ∀ b, (Value.slice A n c).ownBlock = some b → b < hi) (hs : Subs w lo hi (Value.slice A n c).ownBlock n cs sl) (hx : Mine w lo A' n' c' bs)
    (hxb : ∀ b, (Value.slice A' n' c').ownBlock = some b → hi ≤ b)
    (hr : w'.ownsRow lo 87 2 (.slice (some ⟨g, 0, none⟩) (n + 1) cap) (n + 1) (cvs n cs sl ++ [.int .i64 m, .slice A' n' c'])) (hg : w.grownBy w' (Value.slice A n c).ownBlock)
    (hgo : (Value.slice A n c).ownBlock = some g ∨ g = w.heap.size) (hh : hi ≤ w.heap.size) (hi1 : w'.heap.size ≤ hi') : OwnC w' lo hi' (some ⟨g, 0, none⟩) (n + 1) cap (cs ++ [(m, bs)]) := by
  have hsz := hg.size
  have t := Touch.of_grown hg
  refine ⟨by simp [hl], fun b hb => ?_, fun i => if i = n then ⟨A', n', c', bs⟩ else sl i, ?_, ?_⟩
  · have := (World.ownsRow.lt hr b hb).2
    omega
  · rw [← cvs_append n cs sl ⟨A', n', c', bs⟩ m bs hl]; exact hr
  · have hlt : ∀ i, i < n → ∀ b, (sl i).v.ownBlock = some b → b < w.heap.size := fun i hi b hb => (World.ownsRow.lt (hs.mine i hi).1 b hb).2
    have hxl : ∀ b, (Value.slice A' n' c').ownBlock = some b → b < w.heap.size := fun b hb => (World.ownsRow.lt hx.1 b hb).2
    refine ⟨fun i hi => ?_, fun i j hi hj hij b => ?_, fun i hi b => ?_, fun i hi b => ?_⟩
    · rw [cel_append, hl]
      by_cases h : i = n
      · simp only [h, if_true]
        exact hx.touch t (fun b hb e => by have := hxb b hb; have := hu b e.symm; omega)
      · simp only [h, if_false]
        exact (hs.mine i (by omega)).touch t (fun b hb e => hs.other i (by omega) b hb e.symm)
    · by_cases h : i = n
      · have h2 : ¬ j = n := by omega
        simp only [h, h2, if_true, if_false]
        intro e1 e2
        have := hxb b e1
        have := hs.under j (by omega) b e2
        omega
      · by_cases h2 : j = n
        · simp only [h, h2, if_true, if_false]
          intro e1 e2
          have := hxb b e2
          have := hs.under i (by omega) b e1
          omega
        · simp only [h, h2, if_false]
          exact hs.apart i j (by omega) (by omega) hij b
    · have hown : (Value.slice (some (⟨g, 0, none⟩ : Addr)) (n + 1) cap).ownBlock = some g := by simp [Value.ownBlock]
      rw [hown]
      by_cases h : i = n
      · simp only [h, if_true]
        intro e1 e2
        cases e2
        have := hxb _ e1
        have := hxl _ e1
        rcases hgo with e | e
        · have := hu _ e; omega
        · omega
      · simp only [h, if_false]
        intro e1 e2
        cases e2
        rcases hgo with e | e
        · exact hs.other i (by omega) _ e1 e
        · have := hlt i (by omega) _ e1; omega
    · by_cases h : i = n
      · simp only [h, if_true]
        intro e1
        have := hxl b e1
        omega
      · simp only [h, if_false]
        intro e1
        have := hlt i (by omega) b e1
        omega

theorem l1Bytes_any (A : Option Addr) (n c : Nat) (bs : List Int) (B : Nat) (w : World) (h0 : 0 < n) (hn : n ≤ 1048576) (hB : B ≤ w.heap.size) (hb : Byts w B A n bs) :
    Calls Tryz.prog 151 #[.slice A n c] w fun e w' => ∃ A' n' c', e = .returned (.slice A' n' c') ∧ Mine w' w.heap.size A' n' c' bs ∧ Below w.heap.size w w' := by
  have hlen := hb.1
  have hr := hb.2.1
  obtain ⟨b, off, rfl, hbB, hrow⟩ := (hb.alloc hB (.cells #[] 5)).row h0
  obtain ⟨i0, hi, hz0, hz1, hz2⟩ := info_parts Tryz.info5
  have HI := Lib.hid hi
  have HZ0 := Lib.hid hz0
  have HZ1 := Lib.hid hz1
  have HZ2 := Lib.hid hz2
  have HR := Lib.hid hrow
  have E0 := Lib.hid (Mine.empty w)
  have B0 := Lib.hid ((Below.refl w.heap.size w).alloc (Nat.le_refl _) (.cells #[] 5))
  clear hi hz0 hz1 hz2 hrow hb
  go_enter Tryz.func151, Tryz.ntmps151
  go_wp2_with (at_builtin; refine wpList_append_own _ rfl _ _ 22 rfl w.heap.size 5 i0 (.int .u8 0) 1 1 Tryz.underlying22 HI.out HZ0.out HZ1.out HZ2.out rfl (by decide) _ _ _ rfl E0.out.1 ⟨b, off, none⟩ n _ (bs.map (Value.int .u8)) rfl ?e0 ?e1 ?e2 ?e3 ?e4 ?e5 ?_)
  case e0 => rw [List.length_map, Nat.mul_one]; exact hlen
  case e1 => exact HR.out
  case e2 => intro u hu; obtain ⟨z, _, rfl⟩ := List.mem_map.1 hu; rfl
  case e3 => unfold maxLen; omega
  case e4 => omega
  case e5 => simp
  intro v1 w1 hown1 hgrow1 hnil1
  have hv : ∃ g c, v1 = .slice (some ⟨g, 0, none⟩) n c := by
    rcases hown1.2 with ⟨e, _⟩ | ⟨g, cap, cur, e, _⟩
    · exact absurd e hnil1
    · exact ⟨g, cap, e⟩
  obtain ⟨g1, c1, rfl⟩ := hv
  have hm1 := E0.out.app (ys := bs) hr (by simpa using hown1)
  have hb1 : Below w.heap.size w w1 := B0.out.grown hgrow1 (by simp) (fun g hg => (E0.out.1.lt g hg).1)
  go_wp2
  go_ret
  exact ⟨_, _, _, rfl, by simpa using hm1, hb1⟩
theorem OwnC.made0 (w : World) : OwnC (w.alloc (.cells #[] 87)) w.heap.size (w.heap.size + 1) (some ⟨w.heap.size, 0, none⟩) 0 0 [] := by
  have h := OwnC.of_made w 0 (by unfold maxLen; omega)
  simpa [cvs] using h

/-- .. and they lie in a block, also where there are none. -/
def GaveC1 (w : World) (cs : List (Int × List Int)) (e : Ending) (w' : World) : Prop := ∃ g n c, e = .returned (.slice (some ⟨g, 0, none⟩) n c) ∧ OwnC w' w.heap.size w'.heap.size (some ⟨g, 0, none⟩) n c cs ∧ Below w.heap.size w w'
theorem l4Copy_any (A : Option Addr) (n c : Nat) (cs : List (Int × List Int)) (B : Nat) (w : World) (hn : n ≤ 1048576) (hm : ∀ i, (cel cs i).2.length ≤ 1048576) (hp : ∀ i, i < n → 0 < (cel cs i).2.length) (hB : B ≤ w.heap.size) (hb : Cells w B A n cs) :
    Calls Tryz.prog 191 #[.slice A n c] w (GaveC1 w cs) := by
  have HB := Lib.hid (hb.more hB)
  have hlen := hb.1
  clear hb
  obtain ⟨i0, hi, hz0, hz1, hz2⟩ := info_parts Tryz.infoC
  have HI := Lib.hid hi
  have HZ0 := Lib.hid hz0
  have HZ1 := Lib.hid hz1
  have HZ2 := Lib.hid hz2
  clear hi hz0 hz1 hz2
  go_enter Tryz.func191, Tryz.ntmps191
  go_wp2
  go_loopw [3, 4] (fun o i wr => ∃ (k : Nat) (go : Nat) (co : Nat), k ≤ n ∧ i = .int .i64 k ∧ o = .slice (some ⟨go, 0, none⟩) k co ∧ OwnC wr w.heap.size wr.heap.size (some ⟨go, 0, none⟩) k co (cs.take k) ∧ Below w.heap.size w wr) (fun _ i _ => n - (intOf i).toNat)
  case atStart => exact ⟨0, w.heap.size, 0, Nat.zero_le _, rfl, rfl, by simpa using OwnC.made0 w, (Below.refl _ _).alloc (Nat.le_refl _) _⟩
  case round =>
    obtain ⟨k, go, co, hk, rfl, rfl, hown, hbel⟩ := hrel
    by_cases hlt : k < n
    · obtain ⟨b, off, Ai, ni, ci, rfl, hbB, h0, h1, _, _, hy⟩ := (HB.out.below hbel).at_ hlt
      obtain ⟨x, hx⟩ : ∃ x, cel cs k = x := ⟨_, rfl⟩
      have hnm := hm k
      have hpk := hp k hlt
      have hst := cel_take cs k (by omega)
      rw [hx] at h0 hy hnm hpk hst
      have hni := hy.1
      have Y := Lib.hid hy
      have HST := Lib.hid hst
      have OR := Lib.hid hown
      have BR := Lib.hid hbel
      have hs0 := hbel.size
      clear hy hown hbel hst
      go_wp2
      go_region_law (first
        | (refine step_append_lies _ rfl _ _ 24 rfl w.heap.size 87 i0 (.agg #[.int .i64 0, .slice none 0 0]) 2 32 Tryz.underlying24 HI.out HZ0.out HZ1.out HZ2.out rfl (by decide) (.slice (some ⟨go, 0, none⟩) k co) k (cvs k (cs.take k) sl) (by simp [Act.eval]) hrow ⟨w1.heap.size, 0, none⟩ 1 1 [.int .i64 x.1, .slice A1 n1 c1] (by simp [Act.eval]) rfl (by
              intro j u hj
              match j, hj with
              | 0, hj => simp at hj; subst hj; simp [Addr.add]
              | 1, hj => simp at hj; subst hj; simp [Addr.add]) (by intro u hu; simp at hu; rcases hu with rfl | rfl <;> rfl) (by omega) (by unfold maxLen; omega) (by omega) (by simp; omega) _ rfl ?_
           intro g6 c6 w6 hown6 hgrow6 hwh6 hlt6
           have h6 := OwnC.pushed hl hu hsub mx hxb hown6 hgrow6 hwh6 hhi (Nat.le_refl _)
           have b6 := B1.out.grown hgrow6 (by simp; omega) (fun g hg => (hrow.lt g hg).1))
        | (go_simp
           refine (l1Bytes_any Ai ni ci x.2 w.heap.size wr.drew (by omega) (by omega) hs0 Y.out.drew).mono ?_
           rintro e w1 ⟨A1, n1, c1, rfl, m1, b1⟩
           have hs1 : wr.heap.size ≤ w1.heap.size := b1.size
           have HK1 := HB.out.below ((BR.out.drew).trans (b1.mono hs0))
           obtain ⟨_, _, _, _, _, e1, _, h0, _⟩ := HK1.at_ hlt
           cases e1
           rw [hx] at h0
           have ba : Below w1.heap.size w1 (w1.alloc (.cells #[.int .i64 x.1, .slice A1 n1 c1] 87)) := (Below.refl _ _).alloc (Nat.le_refl _) _
           obtain ⟨hl, hu, sl, hrow, hsub⟩ := ((OR.out.below (below_drewN (Below.refl _ _) 1)).below b1).below (ba.mono hs1)
           have mx := (m1.below ba).base hs0
           have hxb : ∀ b, (Value.slice A1 n1 c1).ownBlock = some b → wr.heap.size ≤ b := fun b hb => (m1.1.lt b hb).1
           have B1 := Lib.hid ((BR.out.drew.trans (b1.mono hs0)).trans (ba.mono (Nat.le_trans hs0 hs1)))
           have hhi : wr.heap.size ≤ (w1.alloc (.cells #[.int .i64 x.1, .slice A1 n1 c1] 87)).heap.size := by simp; omega))
      all_goals
        rw [show ((x.1, x.2) : Int × List Int) = x from rfl, ← HST.out] at h6
        have H6 := Lib.hid h6
        have B6 := Lib.hid b6
        clear h6 b6 hown6 hgrow6 hwh6 hrow hsub mx hxb
        go_wp2
        go_roundw
        case rel => exact ⟨k + 1, _, _, by omega, by go_num, rfl, H6.out, B6.out⟩
        case measure => simp [intOf]; omega
    · obtain rfl : k = n := by omega
      rw [List.take_of_length_le (by omega)] at hown
      go_wp2
      go_ret
      exact ⟨_, _, _, rfl, hown, hbel⟩
end Go.Proofs.YtdhnhgppapkikaaGreatDoor

-- CellA: A cell of a node; a cell put among others.
namespace Go.Proofs.YtdhnhgppapkikaaGreatDoor
set_option maxRecDepth 20000
set_option linter.unusedVariables false
set_option linter.unusedSimpArgs false
open Go.RowKit

theorem l4CellOf_any (v : Value) (nd : MNode) (B : Nat) (w : World) (hB : B ≤ w.heap.size) (hv : NodeIn w B v nd) (hlen : (rawBytes nd).length ≤ 1048576) :
    Calls Tryz.prog 250 #[v] w fun e w' => ∃ g n c, e = .returned (.agg #[.int .i64 (nameOf (rawBytes nd)), .slice (some ⟨g, 0, none⟩) n c]) ∧ Mine w' w.heap.size (some ⟨g, 0, none⟩) n c (rawBytes nd) ∧ Below w.heap.size w w' := by
  have HV := Lib.hid (hv.more hB)
  obtain ⟨Ap, np, cp, Ak, nk, ck, rfl, hnp, hnk, hsz, hp, hk⟩ := hv
  clear hp hk
  obtain ⟨w2, hw2⟩ : ∃ w2, (w.alloc (.cells #[.int .i64 nd.kind, .slice Ap np cp, .slice Ak nk ck, .string nd.val] 134)).alloc (.cells #[.int .i64 0, .slice none 0 0] 87) = w2 := ⟨_, rfl⟩
  have x2 : Box w2 (w.heap.size + 1) _ _ := hw2 ▸ heap2_1 _ _ _
  have s2 : w2.heap.size = w.heap.size + 2 := hw2 ▸ size2 _ _ _
  have b2 : Below w.heap.size w w2 := hw2 ▸ below2 _ _ _
  have X2 := Lib.hid x2
  have B2 := Lib.hid b2
  have HW := Lib.hid hw2
  clear x2 b2 hw2
  go_enter Tryz.func250, Tryz.ntmps250
  go_wp2_with fail
  rw [HW.out]
  refine (l3Bytes_any _ nd w.heap.size w2 (by omega) (HV.out.below B2.out)).mono ?_
  rintro e w3 ⟨g3, n3, c3, rfl, m3, b3⟩
  have hs3 := b3.size
  have hl3 := m3.len
  have hby := m3.byts
  have X3 := Lib.hid (X2.out.below b3 (by omega))
  have B3 := Lib.hid (B2.out.trans (b3.mono (by omega)))
  have M3 := Lib.hid m3
  have BY := Lib.hid hby
  clear m3 b3 hby
  have q0 := X3.out.cell 0
  have q1 := X3.out.cell 1
  have f3 := X3.out.free
  simp at q0 q1
  go_wp2_with fail
  refine (specName_any _ n3 c3 (rawBytes nd) _ w3 (by omega) BY.out).mono ?_
  rintro e w' ⟨rfl, rfl⟩
  have hX := (X3.out.set_ 0 (.int .i64 (nameOf (rawBytes nd)))).set_ 1 (.slice (some ⟨g3, 0, none⟩) n3 c3)
  have hS : Touch (fun k => k = w.heap.size + 1) w3 _ := (touch_set (S := fun k => k = w.heap.size + 1) w3 (w.heap.size + 1) 0 (.int .i64 (nameOf (rawBytes nd))) rfl).trans (touch_set _ (w.heap.size + 1) 1 (.slice (some ⟨g3, 0, none⟩) n3 c3) rfl)
  have HX := Lib.hid hX
  have HS := Lib.hid hS
  clear hX hS
  go_wp2
  refine bodyPost_ret (v := .agg #[.int .i64 (nameOf (rawBytes nd)), .slice (some ⟨g3, 0, none⟩) n3 c3]) (results_cell_row Tryz.results250 _ _ (w.heap.size + 1) _ _ _ _ rfl HX.out Tryz.underlying87 rfl (by kernel_rfl)) rfl ?_
  have hle := B3.out.size
  exact ⟨g3, n3, c3, rfl, (M3.out.touch HS.out (fun g hg e => by have := (M3.out.1.lt g hg).1; omega)).base (by omega), B3.out.trans (HS.out.below hle (fun k hk e => by omega))⟩

/-- cells whose names rise. -/
def Rise (cs : List (Int × List Int)) : Prop := ∀ i j, i < j → j < cs.length → (cel cs i).1 < (cel cs j).1
/-- where a name belongs. -/
def placeC (cs : List (Int × List Int)) (m : Int) : Nat := cs.findIdx fun c => decide (m < c.1)
theorem placeC_le (cs : List (Int × List Int)) (m : Int) : placeC cs m ≤ cs.length := List.findIdx_le_length
theorem placeC_at (cs : List (Int × List Int)) (m : Int) (k : Nat) (hk : k ≤ cs.length) (h0 : ∀ j, j < k → (cel cs j).1 ≤ m) (h1 : k < cs.length → m < (cel cs k).1) : placeC cs m = k := by
  have hle := placeC_le cs m
  have hc : ∀ i (h : i < cs.length), cs[i] = cel cs i := fun i h => by unfold cel; rw [List.getElem?_eq_getElem h]; rfl
  rcases Nat.lt_trichotomy (placeC cs m) k with h | h | h
  · have h2 := List.findIdx_getElem (w := show cs.findIdx (fun c => decide (m < c.1)) < cs.length from by unfold placeC at h; omega)
    have h3 := h0 _ h
    rw [hc] at h2
    have h2 : m < (cel cs (placeC cs m)).1 := of_decide_eq_true h2
    omega
  · exact h
  · have h2 := List.not_of_lt_findIdx (show k < cs.findIdx fun c => decide (m < c.1) from h)
    have hkl : k < cs.length := by omega
    rw [hc k hkl] at h2
    have h2 : (cel cs k).1 ≤ m := by simpa using h2
    have := h1 hkl
    omega
def insC (cs : List (Int × List Int)) (m : Int) (bs : List Int) : List (Int × List Int) := cs.take (placeC cs m) ++ (m, bs) :: cs.drop (placeC cs m)
theorem insC_len (cs : List (Int × List Int)) (m : Int) (bs : List Int) : (insC cs m bs).length = cs.length + 1 := by
  have := placeC_le cs m
  unfold insC; simp; omega
theorem cvs_len (n : Nat) (cs : List (Int × List Int)) (sl : Nat → Sub) : (cvs n cs sl).length = n * 2 := by simp [cvs]
theorem cel_ins (cs : List (Int × List Int)) (k : Nat) (x : Int × List Int) (hk : k ≤ cs.length) (i : Nat) : cel (cs.take k ++ x :: cs.drop k) i = if i < k then cel cs i else if i = k then x else cel cs (i - 1) := by
  have hl : (cs.take k).length = k := by simp; omega
  unfold cel
  by_cases h : i < k
  · rw [if_pos h, List.getElem?_append_left (by omega), List.getElem?_take_of_lt h]
  · rw [if_neg h, List.getElem?_append_right (by omega), hl]
    by_cases h1 : i = k
    · subst h1; simp
    · rw [if_neg h1, show i - k = i - 1 - k + 1 by omega, List.getElem?_cons_succ, List.getElem?_drop, show k + (i - 1 - k) = i - 1 by omega]
/-- the row of cells with one put in. -/
theorem cvs_ins (n k : Nat) (cs : List (Int × List Int)) (sl : Nat → Sub) (m : Int) (bs : List Int) (x : Sub) (hk : k ≤ n) (hl : cs.length = n) :
    ((cvs n cs sl).take (k * 2) ++ [.int .i64 m, x.v]) ++ (cvs n cs sl).drop (k * 2) = cvs (n + 1) (cs.take k ++ (m, bs) :: cs.drop k) (fun i => if i < k then sl i else if i = k then x else sl (i - 1)) := by
  have hlen := cvs_len n cs sl
  have ht : ((cvs n cs sl).take (k * 2)).length = k * 2 := by rw [List.length_take, hlen]; omega
  have ht2 : ((cvs n cs sl).take (k * 2) ++ [.int .i64 m, x.v]).length = k * 2 + 2 := by rw [List.length_append, ht]; rfl
  apply List.ext_getElem?
  intro j
  by_cases hj : j < (n + 1) * 2
  · rw [cvs_at _ _ _ j hj]
    unfold cf
    rw [cel_ins cs k _ (by omega)]
    by_cases h1 : j < k * 2
    · rw [List.getElem?_append_left (by omega), List.getElem?_append_left (by omega), List.getElem?_take_of_lt h1, cvs_at _ _ _ _ (by omega)]
      unfold cf
      simp only [show j / 2 < k by omega, if_true]
    · by_cases h2 : j < k * 2 + 2
      · rw [List.getElem?_append_left (by omega), List.getElem?_append_right (by omega), ht]
        simp only [show ¬ j / 2 < k by omega, show j / 2 = k by omega, if_false, if_true]
        by_cases h3 : j = k * 2
        · subst h3; simp
        · rw [show j - k * 2 = 1 by omega, if_neg (by omega)]; simp
      · rw [List.getElem?_append_right (by omega), ht2, List.getElem?_drop, cvs_at _ _ _ _ (by omega)]
        unfold cf
        simp only [show ¬ j / 2 < k by omega, show ¬ j / 2 = k by omega, if_false]
        rw [show (k * 2 + (j - (k * 2 + 2))) % 2 = j % 2 by omega, show (k * 2 + (j - (k * 2 + 2))) / 2 = j / 2 - 1 by omega]
  · rw [List.getElem?_eq_none (by rw [List.length_append, ht2, List.length_drop, hlen]; omega), List.getElem?_eq_none (by rw [cvs_len]; omega)]
end Go.Proofs.YtdhnhgppapkikaaGreatDoor

-- CellP: The model's putting of a cell among others.
namespace Go.Proofs.YtdhnhgppapkikaaGreatDoor
set_option maxRecDepth 20000
set_option linter.unusedVariables false
set_option linter.unusedSimpArgs false
open Go.RowKit

theorem OwnC.cap {w : World} {lo hi n c : Nat} {A : Option Addr} {cs : List (Int × List Int)} (h : OwnC w lo hi A n c cs) : n ≤ c := by
  obtain ⟨hl, hu, sl, hr, hs⟩ := h
  rcases hr.2 with ⟨e, he⟩ | ⟨g, cap, cur, e, _, _, hc, _⟩
  · have := cvs_len n cs sl
    rw [he] at this
    simp at this; omega
  · cases e; exact hc
theorem OwnC.open0 {w : World} {lo hi g c : Nat} (h : OwnC w lo hi (some ⟨g, 0, none⟩) 0 c []) : w.ownsRow lo 87 2 (.slice (some ⟨g, 0, none⟩) 0 c) 0 [] := by
  obtain ⟨_, _, sl, hr, _⟩ := h
  simpa [cvs] using hr
/-- a cell put in among those that the call owns: in a new row. -/
theorem OwnC.inserted {w w' : World} {lo hi n n' c' g k cap : Nat} {r : Option Nat} {A' : Option Addr} {cs : List (Int × List Int)} {bs : List Int} {m : Int} {sl : Nat → Sub}
    (hl : cs.length = n) (hs : Subs w lo hi r n cs sl) (hx : Mine w lo A' n' c' bs) (hxb : ∀ b, (Value.slice A' n' c').ownBlock = some b → hi ≤ b) (hb : Below w.heap.size w w')
    (hr : w'.ownsRow w.heap.size 87 2 (.slice (some ⟨g, 0, none⟩) (n + 1) cap) (n + 1) (((cvs n cs sl).take (k * 2) ++ [.int .i64 m, .slice A' n' c']) ++ (cvs n cs sl).drop (k * 2)))
    (hk : k ≤ n) (hlo : lo ≤ w.heap.size) (hh : hi ≤ w.heap.size) : OwnC w' lo w'.heap.size (some ⟨g, 0, none⟩) (n + 1) cap (cs.take k ++ (m, bs) :: cs.drop k) := by
  have hsz := hb.size
  have hlt : ∀ i, i < n → ∀ b, (sl i).v.ownBlock = some b → b < w.heap.size := fun i hi b hb => (World.ownsRow.lt (hs.mine i hi).1 b hb).2
  have hxl : ∀ b, (Value.slice A' n' c').ownBlock = some b → b < w.heap.size := fun b hb => (World.ownsRow.lt hx.1 b hb).2
  refine ⟨by simp; omega, fun b h => (World.ownsRow.lt hr b h).2, fun i => if i < k then sl i else if i = k then ⟨A', n', c', bs⟩ else sl (i - 1), ?_, ?_⟩
  · rw [← cvs_ins n k cs sl m bs ⟨A', n', c', bs⟩ hk hl]
    refine ⟨hr.1, ?_⟩
    rcases hr.2 with h | ⟨g, cap, cur, hv, hg, rest⟩
    · exact .inl h
    · exact .inr ⟨g, cap, cur, hv, by omega, rest⟩
  · have hgw : w.heap.size ≤ g := (World.ownsRow.lt hr g (by simp [Value.ownBlock])).1
    have own1 : (Value.slice (some (⟨g, 0, none⟩ : Addr)) (n + 1) cap).ownBlock = some g := by simp [Value.ownBlock]
    refine ⟨fun i hi => ?_, fun i j hi hj hij b => ?_, fun i hi b => ?_, fun i hi b => ?_⟩
    · rw [cel_ins cs k _ (by omega)]
      by_cases h : i < k
      · simp only [h, if_true]
        exact (hs.mine i (by omega)).below hb
      · by_cases h1 : i = k
        · subst h1
          simp only [h, if_true, if_false]
          exact hx.below hb
        · simp only [h, h1, if_false]
          exact (hs.mine (i - 1) (by omega)).below hb
    · by_cases h1 : i < k <;> by_cases h2 : j < k <;> by_cases h3 : i = k <;> by_cases h4 : j = k <;> simp only [h1, h2, h3, h4, if_true, if_false, Nat.lt_irrefl] <;> first
        | omega
        | exact hs.apart _ _ (by omega) (by omega) (by omega) b
        | (intro e1 e2; have := hxb b e1; have := hs.under _ (by omega) b e2; omega)
        | (intro e1 e2; have := hxb b e2; have := hs.under _ (by omega) b e1; omega)
    · rw [own1]
      intro e1 e2
      cases e2
      by_cases h : i < k
      · simp only [h, if_true] at e1
        have := hlt i (by omega) _ e1; omega
      · by_cases h1 : i = k
        · simp only [h1, Nat.lt_irrefl, if_true, if_false] at e1
          have := hxl _ e1; omega
        · simp only [h, h1, if_false] at e1
          have := hlt (i - 1) (by omega) _ e1; omega
    · intro e1
      by_cases h : i < k
      · simp only [h, if_true] at e1
        have := hlt i (by omega) _ e1; omega
      · by_cases h1 : i = k
        · simp only [h1, Nat.lt_irrefl, if_true, if_false] at e1
          have := hxl _ e1; omega
        · simp only [h, h1, if_false] at e1
          have := hlt (i - 1) (by omega) _ e1; omega
theorem cvs_one (n : Nat) (cs : List (Int × List Int)) (sl : Nat → Sub) : ∀ u ∈ cvs n cs sl, u.oneCell' = true := by
  intro u hu
  unfold cvs at hu
  obtain ⟨j, _, rfl⟩ := List.mem_map.1 hu
  unfold cf
  split <;> rfl
theorem l4Add_any (g n c lo hi : Nat) (cs : List (Int × List Int)) (m : Int) (A' : Option Addr) (n' c' : Nat) (bs : List Int) (w : World) (hn : n ≤ 1048575) (ho : OwnC w lo hi (some ⟨g, 0, none⟩) n c cs) (hhi : hi ≤ w.heap.size)
    (hx : Mine w lo A' n' c' bs) (hxb : ∀ b, (Value.slice A' n' c').ownBlock = some b → hi ≤ b) (hR : Rise cs) :
    Calls Tryz.prog 195 #[.slice (some ⟨g, 0, none⟩) n c, .agg #[.int .i64 m, .slice A' n' c']] w fun e w' => Below w.heap.size w w' ∧
      ((findC cs m < n ∧ e = .returned (.slice (some ⟨g, 0, none⟩) n c)) ∨
        (¬ findC cs m < n ∧ ∃ g' c2, e = .returned (.slice (some ⟨g', 0, none⟩) (n + 1) c2) ∧ OwnC w' lo w'.heap.size (some ⟨g', 0, none⟩) (n + 1) c2 (insC cs m bs))) := by
  have hlen := ho.len
  have HO := Lib.hid ho
  have HX := Lib.hid hx
  have HXB := Lib.hid hxb
  have HR := Lib.hid hR
  clear ho hx hxb hR
  obtain ⟨i0, hi0, hz0, hz1, hz2⟩ := info_parts Tryz.infoC
  have HI := Lib.hid hi0
  have HZ0 := Lib.hid hz0
  have HZ1 := Lib.hid hz1
  have HZ2 := Lib.hid hz2
  clear hi0 hz0 hz1 hz2
  obtain ⟨w1, hw1⟩ : ∃ w1, w.alloc (.cells #[.int .i64 m, .slice A' n' c'] 87) = w1 := ⟨_, rfl⟩
  have x1 : Box w1 w.heap.size _ _ := hw1 ▸ heap_alloc_new _ _
  have s1 : w1.heap.size = w.heap.size + 1 := hw1 ▸ by simp
  have b1 : Below w.heap.size w w1 := hw1 ▸ (Below.refl _ _).alloc (Nat.le_refl _) _
  have X1 := Lib.hid x1
  have B1 := Lib.hid b1
  have HW := Lib.hid hw1
  have q10 := X1.out.cell 0
  simp at q10
  clear x1 b1 hw1
  have O1 := Lib.hid (HO.out.below (B1.out.mono hhi))
  go_enter Tryz.func195, Tryz.ntmps195
  go_wp2_with fail
  rw [HW.out]
  refine (l4Find_any _ n c cs m _ w1 (by omega) O1.out.cells).mono ?_
  rintro e w' ⟨rfl, rfl⟩
  by_cases hf : findC cs m < n
  · rw [if_pos hf]
    have hd : decide ((0 : Int) ≤ ((findC cs m : Nat) : Int)) = true := decide_eq_true (by omega)
    obtain ⟨k, hk⟩ : ∃ k, findC cs m = k := ⟨_, rfl⟩
    have HF := Lib.hid hk
    rw [hk] at hd hf ⊢
    clear hk
    go_wp2
    go_ret
    exact ⟨B1.out, .inl ⟨by rw [HF.out]; exact hf, rfl⟩⟩
  · rw [if_neg hf]
    have HF := Lib.hid hf
    clear hf
    go_wp2
    go_loopw [5] (fun i wr => ∃ k : Nat, k ≤ n ∧ i = .int .i64 k ∧ (∀ j, k ≤ j → j < n → m < (cel cs j).1) ∧ Below w1.heap.size w1 wr) (fun i _ => (intOf i).toNat)
    case atStart => exact ⟨n, Nat.le_refl _, rfl, fun j h1 h2 => by omega, Below.refl _ _⟩
    case round =>
      obtain ⟨k, hk, rfl, hgt, hbr⟩ := hrel
      have HBR := Lib.hid hbr
      have BR := Lib.hid (B1.out.trans (hbr.mono (by omega)))
      have OR := Lib.hid (O1.out.below (hbr.mono (by omega)))
      have XR := Lib.hid (X1.out.below hbr (by omega))
      have hsr : w1.heap.size ≤ wr.heap.size := hbr.size
      have hq := XR.out.cell 0
      simp at hq
      have GT := Lib.hid hgt
      clear hbr q10 hgt
      have hcap := OR.out.cap
      by_cases hrun : 0 < k ∧ m < (cel cs (k - 1)).1
      · obtain ⟨hk0, hlt⟩ := hrun
        have hia := index_cell_pred g 0 n c k hk0 (by omega)
        simp only [Nat.zero_add] at hia
        have hwk : IntKind.i64.wrap ((k : Int) - 1) = (k : Int) - 1 := by rw [IntKind.wrap_i64]; omega
        have hd : decide ((0 : Int) < (k : Int)) = true := decide_eq_true (by omega)
        have p0 := OR.out.cell0 (k := k - 1) (by omega)
        obtain ⟨y, hy⟩ : ∃ y, (cel cs (k - 1)).1 = y := ⟨_, rfl⟩
        rw [hy] at p0 hlt
        have hdR : decide (m < y) = true := decide_eq_true hlt
        go_wp2
        go_quiet (fail)
        go_wp2
        go_roundw
        case rel =>
          refine ⟨k - 1, by omega, by go_num, fun j h1 h2 => ?_, below_drewN HBR.out _⟩
          rcases Nat.lt_or_ge j k with h | h
          · rw [show j = k - 1 by omega, hy]; exact hlt
          · exact GT.out j h h2
        case measure => simp [intOf]; omega
      · have hpl := placeC_at cs m k (by omega) (fun j hj => by
          rcases Nat.lt_or_ge j (k - 1) with h | h
          · have := HR.out j (k - 1) h (by omega); omega
          · rw [show j = k - 1 by omega]; omega) (fun h => GT.out k (Nat.le_refl _) (by omega))
        have PL := Lib.hid hpl
        have NR := Lib.hid hrun
        clear hpl hrun
        by_cases hk0 : 0 < k
        · have hia := index_cell_pred g 0 n c k hk0 (by omega)
          simp only [Nat.zero_add] at hia
          have hwk : IntKind.i64.wrap ((k : Int) - 1) = (k : Int) - 1 := by rw [IntKind.wrap_i64]; omega
          have hd : decide ((0 : Int) < (k : Int)) = true := decide_eq_true (by omega)
          have p0 := OR.out.cell0 (k := k - 1) (by omega)
          obtain ⟨y, hy⟩ : ∃ y, (cel cs (k - 1)).1 = y := ⟨_, rfl⟩
          have hlt := NR.out
          rw [hy] at p0 hlt
          have hdR : decide (m < y) = false := decide_eq_false (by omega)
          clear hlt
          go_wp2
          go_quiet (fail)
          clear hia hwk hd p0 hdR
          have B2 := Lib.hid (below_drewN BR.out nq)
          have O2 := Lib.hid (OR.out.below (below_drewN (Below.refl _ _) nq))
          have X2 := Lib.hid (XR.out.below (below_drewN (Below.refl _ _) nq) XR.out.lt)
          have M2 := Lib.hid ((HX.out.below BR.out).below (below_drewN (Below.refl _ _) nq))
          have hs2 : w.heap.size ≤ (wr.drewN nq).heap.size := B2.out.size
          generalize wr.drewN nq = w2 at B2 O2 X2 M2 hs2 ⊢
          clear hq hsr
          obtain ⟨hl, hu, sl, hrow, hsub⟩ := O2.out
          have HROW := Lib.hid hrow
          have HSUB := Lib.hid hsub
          have HL := Lib.hid hl
          clear hrow hsub hl
          have hg : g < w.heap.size := Nat.lt_of_lt_of_le (hu g (by simp [Value.ownBlock])) hhi
          have E0 := Lib.hid (OwnC.made0 w2).open0
          have ba : Below w2.heap.size w2 (w2.alloc (.cells #[] 87)) := (Below.refl _ _).alloc (Nat.le_refl _) _
          have BA := Lib.hid ba
          clear ba
          have hrd : ∀ (W : World), Below w.heap.size w2 W → ∀ j, j < n * 2 → W.cell? ⟨g, j, none⟩ = (cvs n cs sl)[j]? := fun W hW j hj => by
            rw [hW.cell (p := ⟨g, j, none⟩) hg]
            rw [World.ownsRow.cellAt HROW.out j (by omega)]
          have RD := Lib.hid hrd
          clear hrd
          go_wp2_with (at_builtin; refine wpList_append_own _ rfl _ _ 24 rfl w2.heap.size 87 i0 (.agg #[.int .i64 0, .slice none 0 0]) 2 32 Tryz.underlying24 HI.out HZ0.out HZ1.out HZ2.out rfl (by decide) _ _ _ rfl E0.out ⟨g, 0, none⟩ k _ ((cvs n cs sl).take (k * 2)) rfl ?bp0 ?bp1 ?bp2 ?bp3 ?bp4 ?bp5 ?_)
          case bp0 => rw [List.length_take, cvs_len]; omega
          case bp1 =>
            intro j u hj
            have hadd : (⟨g, 0, none⟩ : Addr).add j = ⟨g, j, none⟩ := by unfold Addr.add; split <;> simp_all
            have hjl : j < k * 2 := by
              rcases Nat.lt_or_ge j (k * 2) with h | h
              · exact h
              · rw [List.getElem?_eq_none (by rw [List.length_take, cvs_len]; omega)] at hj; cases hj
            rw [hadd, RD.out _ (BA.out.mono hs2) j (by omega), ← hj, List.getElem?_take_of_lt hjl]
          case bp2 => intro u hu; exact cvs_one n cs sl u (List.mem_of_mem_take hu)
          case bp3 => unfold maxLen; omega
          case bp4 => omega
          case bp5 => simp
          intro v3 w3 hown3 hgrow3 hnil3
          obtain ⟨g3, c3, rfl⟩ : ∃ g3 c3, v3 = .slice (some ⟨g3, 0, none⟩) k c3 := by
            rcases hown3.2 with ⟨e, _⟩ | ⟨g, cap, cur, e, _⟩
            · exact absurd e hnil3
            · exact ⟨g, cap, e⟩
          have b3 : Below w2.heap.size w2 w3 := BA.out.grown hgrow3 (by simp) (fun b hb => by simp [Value.ownBlock] at hb; omega)
          have hs3 : w2.heap.size ≤ w3.heap.size := b3.size
          have X3 := Lib.hid (X2.out.below b3 X2.out.lt)
          have OW3 := Lib.hid hown3
          have B3 := Lib.hid b3
          clear hown3 hgrow3 hnil3 b3
          have q30 := X3.out.cell 0
          have q31 := X3.out.cell 1
          simp at q30 q31
          go_wp2_with (at_builtin; refine wpList_append_lies _ rfl _ _ 24 rfl w2.heap.size 87 i0 (.agg #[.int .i64 0, .slice none 0 0]) 2 32 Tryz.underlying24 HI.out HZ0.out HZ1.out HZ2.out rfl (by decide) _ _ _ rfl (own_touch (S := fun _ => False) OW3.out (Touch.of_below ((Below.refl _ _).alloc (Nat.le_refl _) _)) (fun _ _ h => h)) ⟨w3.heap.size, 0, none⟩ 1 1 [.int .i64 m, .slice A' n' c'] rfl ?bq0 ?bq1 ?bq2 (by omega) ?bq3 ?bq4 ?bq5 _ rfl ?_)
          case bq0 => rfl
          case bq1 =>
            intro j u hj
            match j, hj with
            | 0, hj => simp at hj; subst hj; simp [Addr.add]
            | 1, hj => simp at hj; subst hj; simp [Addr.add]
          case bq2 => intro u hu; simp at hu; rcases hu with rfl | rfl <;> rfl
          case bq3 => unfold maxLen; omega
          case bq4 => omega
          case bq5 => simp; omega
          intro g4 c4 w4 hown4 hgrow4 _ _
          have b4 : Below w2.heap.size w2 w4 := (B3.out.trans (((Below.refl w3.heap.size w3).alloc (Nat.le_refl _) _).mono hs3)).grown hgrow4 (by simp; omega) (fun b hb => (OW3.out.lt b hb).1)
          have hs4 : w2.heap.size ≤ w4.heap.size := b4.size
          have OW4 := Lib.hid hown4
          obtain ⟨off, hoff, hofk⟩ : ∃ off, (if c = k then (some ⟨g, 0, none⟩ : Option Addr) else some ⟨g, k * 2, none⟩) = some ⟨g, off, none⟩ ∧ (k < n → off = k * 2) := by
            by_cases h : c = k
            · exact ⟨0, if_pos h, fun h2 => by omega⟩
            · exact ⟨k * 2, if_neg h, fun _ => rfl⟩
          have B4 := Lib.hid b4
          clear hown4 hgrow4 b4 q30 q31
          go_wp2_with (at_builtin; refine wpList_append_own _ rfl _ _ 24 rfl w2.heap.size 87 i0 (.agg #[.int .i64 0, .slice none 0 0]) 2 32 Tryz.underlying24 HI.out HZ0.out HZ1.out HZ2.out rfl (by decide) _ _ _ rfl OW4.out ⟨g, off, none⟩ (n - k) _ ((cvs n cs sl).drop (k * 2)) rfl ?br0 ?br1 ?br2 ?br3 ?br4 ?br5 ?_)
          case br0 => rw [List.length_drop, cvs_len]; omega
          case br1 =>
            intro j u hj
            have hadd : (⟨g, off, none⟩ : Addr).add j = ⟨g, off + j, none⟩ := by unfold Addr.add; split <;> simp_all
            have hjl : j < n * 2 - k * 2 := by
              rcases Nat.lt_or_ge j (n * 2 - k * 2) with h | h
              · exact h
              · rw [List.getElem?_eq_none (by rw [List.length_drop, cvs_len]; omega)] at hj; cases hj
            rw [hadd, hofk (by omega), RD.out _ (B4.out.mono hs2) (k * 2 + j) (by omega), ← hj, List.getElem?_drop]
          case br2 => intro u hu; exact cvs_one n cs sl u (List.mem_of_mem_drop hu)
          case br3 => unfold maxLen; omega
          case br4 => omega
          case br5 => omega
          intro v5 w5 hown5 hgrow5 hnil5
          obtain ⟨g5, c5, rfl⟩ : ∃ g5 c5, v5 = .slice (some ⟨g5, 0, none⟩) (k + 1 + (n - k)) c5 := by
            rcases hown5.2 with ⟨e, _⟩ | ⟨g, cap, cur, e, _⟩
            · exact absurd e hnil5
            · exact ⟨g, cap, e⟩
          have b5 : Below w2.heap.size w2 w5 := B4.out.grown hgrow5 (by omega) (fun b hb => (OW4.out.lt b hb).1)
          have B5 := Lib.hid b5
          have OW5 := Lib.hid hown5
          clear hown5 hgrow5 hnil5 b5
          rw [show k + 1 + (n - k) = n + 1 by omega] at OW5 ⊢
          go_wp2
          go_ret
          refine ⟨B2.out.trans (B5.out.mono hs2), .inr ⟨HF.out, g5, c5, rfl, ?_⟩⟩
          unfold insC
          rw [PL.out]
          exact OwnC.inserted HL.out HSUB.out M2.out HXB.out B5.out (by simpa using OW5.out) hk (Nat.le_trans (HROW.out.lt g (by simp [Value.ownBlock])).1 (by omega)) (by omega)
        · have hd : decide ((0 : Int) < (k : Int)) = false := decide_eq_false (by omega)
          go_wp2
          go_quiet (fail)
          clear hd
          have B2 := Lib.hid (below_drewN BR.out nq)
          have O2 := Lib.hid (OR.out.below (below_drewN (Below.refl _ _) nq))
          have X2 := Lib.hid (XR.out.below (below_drewN (Below.refl _ _) nq) XR.out.lt)
          have M2 := Lib.hid ((HX.out.below BR.out).below (below_drewN (Below.refl _ _) nq))
          have hs2 : w.heap.size ≤ (wr.drewN nq).heap.size := B2.out.size
          generalize wr.drewN nq = w2 at B2 O2 X2 M2 hs2 ⊢
          clear hq hsr
          obtain ⟨hl, hu, sl, hrow, hsub⟩ := O2.out
          have HROW := Lib.hid hrow
          have HSUB := Lib.hid hsub
          have HL := Lib.hid hl
          clear hrow hsub hl
          have hg : g < w.heap.size := Nat.lt_of_lt_of_le (hu g (by simp [Value.ownBlock])) hhi
          have E0 := Lib.hid (OwnC.made0 w2).open0
          have ba : Below w2.heap.size w2 (w2.alloc (.cells #[] 87)) := (Below.refl _ _).alloc (Nat.le_refl _) _
          have BA := Lib.hid ba
          clear ba
          have hrd : ∀ (W : World), Below w.heap.size w2 W → ∀ j, j < n * 2 → W.cell? ⟨g, j, none⟩ = (cvs n cs sl)[j]? := fun W hW j hj => by
            rw [hW.cell (p := ⟨g, j, none⟩) hg]
            rw [World.ownsRow.cellAt HROW.out j (by omega)]
          have RD := Lib.hid hrd
          clear hrd
          go_wp2_with (at_builtin; refine wpList_append_own _ rfl _ _ 24 rfl w2.heap.size 87 i0 (.agg #[.int .i64 0, .slice none 0 0]) 2 32 Tryz.underlying24 HI.out HZ0.out HZ1.out HZ2.out rfl (by decide) _ _ _ rfl E0.out ⟨g, 0, none⟩ k _ ((cvs n cs sl).take (k * 2)) rfl ?cp0 ?cp1 ?cp2 ?cp3 ?cp4 ?cp5 ?_)
          case cp0 => rw [List.length_take, cvs_len]; omega
          case cp1 =>
            intro j u hj
            have hadd : (⟨g, 0, none⟩ : Addr).add j = ⟨g, j, none⟩ := by unfold Addr.add; split <;> simp_all
            have hjl : j < k * 2 := by
              rcases Nat.lt_or_ge j (k * 2) with h | h
              · exact h
              · rw [List.getElem?_eq_none (by rw [List.length_take, cvs_len]; omega)] at hj; cases hj
            rw [hadd, RD.out _ (BA.out.mono hs2) j (by omega), ← hj, List.getElem?_take_of_lt hjl]
          case cp2 => intro u hu; exact cvs_one n cs sl u (List.mem_of_mem_take hu)
          case cp3 => unfold maxLen; omega
          case cp4 => omega
          case cp5 => simp
          intro v3 w3 hown3 hgrow3 hnil3
          obtain ⟨g3, c3, rfl⟩ : ∃ g3 c3, v3 = .slice (some ⟨g3, 0, none⟩) k c3 := by
            rcases hown3.2 with ⟨e, _⟩ | ⟨g, cap, cur, e, _⟩
            · exact absurd e hnil3
            · exact ⟨g, cap, e⟩
          have b3 : Below w2.heap.size w2 w3 := BA.out.grown hgrow3 (by simp) (fun b hb => by simp [Value.ownBlock] at hb; omega)
          have hs3 : w2.heap.size ≤ w3.heap.size := b3.size
          have X3 := Lib.hid (X2.out.below b3 X2.out.lt)
          have OW3 := Lib.hid hown3
          have B3 := Lib.hid b3
          clear hown3 hgrow3 hnil3 b3
          have q30 := X3.out.cell 0
          have q31 := X3.out.cell 1
          simp at q30 q31
          go_wp2_with (at_builtin; refine wpList_append_lies _ rfl _ _ 24 rfl w2.heap.size 87 i0 (.agg #[.int .i64 0, .slice none 0 0]) 2 32 Tryz.underlying24 HI.out HZ0.out HZ1.out HZ2.out rfl (by decide) _ _ _ rfl (own_touch (S := fun _ => False) OW3.out (Touch.of_below ((Below.refl _ _).alloc (Nat.le_refl _) _)) (fun _ _ h => h)) ⟨w3.heap.size, 0, none⟩ 1 1 [.int .i64 m, .slice A' n' c'] rfl ?cq0 ?cq1 ?cq2 (by omega) ?cq3 ?cq4 ?cq5 _ rfl ?_)
          case cq0 => rfl
          case cq1 =>
            intro j u hj
            match j, hj with
            | 0, hj => simp at hj; subst hj; simp [Addr.add]
            | 1, hj => simp at hj; subst hj; simp [Addr.add]
          case cq2 => intro u hu; simp at hu; rcases hu with rfl | rfl <;> rfl
          case cq3 => unfold maxLen; omega
          case cq4 => omega
          case cq5 => simp; omega
          intro g4 c4 w4 hown4 hgrow4 _ _
          have b4 : Below w2.heap.size w2 w4 := (B3.out.trans (((Below.refl w3.heap.size w3).alloc (Nat.le_refl _) _).mono hs3)).grown hgrow4 (by simp; omega) (fun b hb => (OW3.out.lt b hb).1)
          have hs4 : w2.heap.size ≤ w4.heap.size := b4.size
          have OW4 := Lib.hid hown4
          obtain ⟨off, hoff, hofk⟩ : ∃ off, (if c = k then (some ⟨g, 0, none⟩ : Option Addr) else some ⟨g, k * 2, none⟩) = some ⟨g, off, none⟩ ∧ (k < n → off = k * 2) := by
            by_cases h : c = k
            · exact ⟨0, if_pos h, fun h2 => by omega⟩
            · exact ⟨k * 2, if_neg h, fun _ => rfl⟩
          have B4 := Lib.hid b4
          clear hown4 hgrow4 b4 q30 q31
          go_wp2_with (at_builtin; refine wpList_append_own _ rfl _ _ 24 rfl w2.heap.size 87 i0 (.agg #[.int .i64 0, .slice none 0 0]) 2 32 Tryz.underlying24 HI.out HZ0.out HZ1.out HZ2.out rfl (by decide) _ _ _ rfl OW4.out ⟨g, off, none⟩ (n - k) _ ((cvs n cs sl).drop (k * 2)) rfl ?cr0 ?cr1 ?cr2 ?cr3 ?cr4 ?cr5 ?_)
          case cr0 => rw [List.length_drop, cvs_len]; omega
          case cr1 =>
            intro j u hj
            have hadd : (⟨g, off, none⟩ : Addr).add j = ⟨g, off + j, none⟩ := by unfold Addr.add; split <;> simp_all
            have hjl : j < n * 2 - k * 2 := by
              rcases Nat.lt_or_ge j (n * 2 - k * 2) with h | h
              · exact h
              · rw [List.getElem?_eq_none (by rw [List.length_drop, cvs_len]; omega)] at hj; cases hj
            rw [hadd, hofk (by omega), RD.out _ (B4.out.mono hs2) (k * 2 + j) (by omega), ← hj, List.getElem?_drop]
          case cr2 => intro u hu; exact cvs_one n cs sl u (List.mem_of_mem_drop hu)
          case cr3 => unfold maxLen; omega
          case cr4 => omega
          case cr5 => omega
          intro v5 w5 hown5 hgrow5 hnil5
          obtain ⟨g5, c5, rfl⟩ : ∃ g5 c5, v5 = .slice (some ⟨g5, 0, none⟩) (k + 1 + (n - k)) c5 := by
            rcases hown5.2 with ⟨e, _⟩ | ⟨g, cap, cur, e, _⟩
            · exact absurd e hnil5
            · exact ⟨g, cap, e⟩
          have b5 : Below w2.heap.size w2 w5 := B4.out.grown hgrow5 (by omega) (fun b hb => (OW4.out.lt b hb).1)
          have B5 := Lib.hid b5
          have OW5 := Lib.hid hown5
          clear hown5 hgrow5 hnil5 b5
          rw [show k + 1 + (n - k) = n + 1 by omega] at OW5 ⊢
          go_wp2
          go_ret
          refine ⟨B2.out.trans (B5.out.mono hs2), .inr ⟨HF.out, g5, c5, rfl, ?_⟩⟩
          unfold insC
          rw [PL.out]
          exact OwnC.inserted HL.out HSUB.out M2.out HXB.out B5.out (by simpa using OW5.out) hk (Nat.le_trans (HROW.out.lt g (by simp [Value.ownBlock])).1 (by omega)) (by omega)
end Go.Proofs.YtdhnhgppapkikaaGreatDoor

-- CellW: The model's WithNode.
namespace Go.Proofs.YtdhnhgppapkikaaGreatDoor
set_option maxRecDepth 20000
set_option linter.unusedVariables false
set_option linter.unusedSimpArgs false
open Go.RowKit

/-- what putting a node under its name makes of cells. -/
def WithIs (cs : List (Int × List Int)) (nd : MNode) (l : List (Int × List Int)) (m : Int) : Prop :=
  (¬ Right cs ∧ l = [] ∧ m = -1) ∨ (Right cs ∧ nodeOk nd = false ∧ l = cs ∧ m = -1) ∨
    (Right cs ∧ nodeOk nd = true ∧ findC cs (nameOf (nodeBytes nd)) < cs.length ∧ l = cs ∧ m = nameOf (nodeBytes nd)) ∨
    (Right cs ∧ nodeOk nd = true ∧ ¬ findC cs (nameOf (nodeBytes nd)) < cs.length ∧ 80 ≤ cs.length ∧ l = cs ∧ m = -1) ∨
    (Right cs ∧ nodeOk nd = true ∧ ¬ findC cs (nameOf (nodeBytes nd)) < cs.length ∧ cs.length < 80 ∧ l = insC cs (nameOf (nodeBytes nd)) (nodeBytes nd) ∧ m = nameOf (nodeBytes nd))
theorem WithIs.one {cs : List (Int × List Int)} {nd : MNode} {l l' : List (Int × List Int)} {m m' : Int} (h : WithIs cs nd l m) (h' : WithIs cs nd l' m') : l = l' ∧ m = m' := by
  rcases h with ⟨a, rfl, rfl⟩ | ⟨a, b, rfl, rfl⟩ | ⟨a, b, c, rfl, rfl⟩ | ⟨a, b, c, d, rfl, rfl⟩ | ⟨a, b, c, d, rfl, rfl⟩ <;>
    rcases h' with ⟨a', rfl, rfl⟩ | ⟨a', b', rfl, rfl⟩ | ⟨a', b', c', rfl, rfl⟩ | ⟨a', b', c', d', rfl, rfl⟩ | ⟨a', b', c', d', rfl, rfl⟩ <;> first
      | exact ⟨rfl, rfl⟩
      | exact absurd a' a
      | exact absurd a a'
      | exact absurd c' c
      | exact absurd c c'
      | omega
      | exact absurd (b.symm.trans b') (by simp)
theorem Right.rises {cs : List (Int × List Int)} (h : Right cs) : Rise cs := fun i j => h.rise i j
theorem nodeBytes_raw (nd : MNode) (h : nodeOk nd = true) : nodeBytes nd = rawBytes nd := by unfold nodeBytes; rw [if_pos h]
theorem isNode_len {bs : List Int} (h : IsNode bs) : 4 ≤ bs.length := by
  obtain ⟨nd, h⟩ := h
  rcases h with ⟨_, h1, _, h2⟩ | ⟨h, _⟩
  · rw [← h2, nodeBytes_raw nd h1]
    simp [rawBytes]; omega
  · cases h

end Go.Proofs.YtdhnhgppapkikaaGreatDoor

-- CellO: The model's Without.
namespace Go.Proofs.YtdhnhgppapkikaaGreatDoor
set_option maxRecDepth 20000
set_option linter.unusedVariables false
set_option linter.unusedSimpArgs false
open Go.RowKit

/-- the cells without those of a name. -/
def lessC (cs : List (Int × List Int)) (m : Int) : List (Int × List Int) := cs.filter fun c => decide (c.1 ≠ m)
theorem lessC_step (cs : List (Int × List Int)) (m : Int) (k : Nat) (hk : k < cs.length) : lessC (cs.take (k + 1)) m = if (cel cs k).1 = m then lessC (cs.take k) m else lessC (cs.take k) m ++ [cel cs k] := by
  unfold lessC
  rw [cel_take cs k hk, List.filter_append]
  by_cases h : (cel cs k).1 = m
  · rw [if_pos h]; simp [h]
  · rw [if_neg h]; simp [h]
/-- a row of cells that are picked from others. -/
structure Picked (w : World) (lo : Nat) (g q c : Nat) (cs : List (Int × List Int)) (sl : Nat → Sub) (k : Nat) (l : List (Int × List Int)) (ix : Nat → Nat) : Prop where
  len : l.length = q
  row : w.ownsRow lo 87 2 (.slice (some ⟨g, 0, none⟩) q c) q (cvs q l fun i => sl (ix i))
  at_ : ∀ i, i < q → ix i < k ∧ cel l i = cel cs (ix i)
  rise : ∀ i j, i < j → j < q → ix i < ix j
theorem Picked.own {w w0 : World} {lo hi g q c n : Nat} {r : Option Nat} {cs l : List (Int × List Int)} {sl : Nat → Sub} {ix : Nat → Nat} (h : Picked w w0.heap.size g q c cs sl n l ix) (hs : Subs w0 lo hi r n cs sl) (hb : Below w0.heap.size w0 w) (hlo : lo ≤ w0.heap.size) :
    OwnC w lo w.heap.size (some ⟨g, 0, none⟩) q c l := by
  have hsz := hb.size
  have hlt : ∀ i, i < n → ∀ b, (sl i).v.ownBlock = some b → b < w0.heap.size := fun i hi b hb => (World.ownsRow.lt (hs.mine i hi).1 b hb).2
  refine ⟨h.len, fun b hb => (World.ownsRow.lt h.row b hb).2, fun i => sl (ix i), ?_, ?_⟩
  · refine ⟨h.row.1, ?_⟩
    rcases h.row.2 with h | ⟨g, cap, cur, hv, hg, rest⟩
    · exact .inl h
    · exact .inr ⟨g, cap, cur, hv, by omega, rest⟩
  · refine ⟨fun i hi => ?_, fun i j hi hj hij b => ?_, fun i hi b e1 e2 => ?_, fun i hi b e => ?_⟩
    · obtain ⟨h1, h2⟩ := h.at_ i hi
      rw [h2]
      exact (hs.mine _ h1).below hb
    · have h1 := (h.at_ i hi).1
      have h2 := (h.at_ j hj).1
      refine hs.apart _ _ h1 h2 (fun e => ?_) b
      rcases Nat.lt_trichotomy i j with h3 | h3 | h3
      · have := h.rise i j h3 hj; omega
      · exact hij h3
      · have := h.rise j i h3 hi; omega
    · have h1 := hlt _ (h.at_ i hi).1 b e1
      have h2 := (World.ownsRow.lt h.row b e2).1
      omega
    · have := hlt _ (h.at_ i hi).1 b e; omega

theorem l4Without_any (g n c lo hi : Nat) (cs : List (Int × List Int)) (m : Int) (w : World) (hn : n ≤ 1048576) (ho : OwnC w lo hi (some ⟨g, 0, none⟩) n c cs) (hhi : hi ≤ w.heap.size) (hlo : lo ≤ w.heap.size) :
    Calls Tryz.prog 196 #[.slice (some ⟨g, 0, none⟩) n c, .int .i64 m] w fun e w' => ∃ g' n' c', e = .returned (.slice (some ⟨g', 0, none⟩) n' c') ∧ OwnC w' lo w'.heap.size (some ⟨g', 0, none⟩) n' c' (lessC cs m) ∧ Below w.heap.size w w' := by
  have hlen := ho.len
  have HO := Lib.hid ho
  obtain ⟨hl, hu, sl, hrow, hsub⟩ := ho
  have HROW := Lib.hid hrow
  have HSUB := Lib.hid hsub
  have hg : g < w.heap.size := Nat.lt_of_lt_of_le (hu g (by simp [Value.ownBlock])) hhi
  clear hl hu hrow hsub
  obtain ⟨i0, hi0, hz0, hz1, hz2⟩ := info_parts Tryz.infoC
  have HI := Lib.hid hi0
  have HZ0 := Lib.hid hz0
  have HZ1 := Lib.hid hz1
  have HZ2 := Lib.hid hz2
  clear hi0 hz0 hz1 hz2
  have hrd : ∀ (W : World), Below w.heap.size w W → ∀ j, j < n * 2 → W.cell? ⟨g, j, none⟩ = (cvs n cs sl)[j]? := fun W hW j hj => by
    rw [hW.cell (p := ⟨g, j, none⟩) hg]
    rw [World.ownsRow.cellAt HROW.out j (by omega)]
  have RD := Lib.hid hrd
  clear hrd
  go_enter Tryz.func196, Tryz.ntmps196
  go_wp2
  go_loopw [5, 6] (fun o i wr => ∃ (k q gq cq : Nat) (ix : Nat → Nat), k ≤ n ∧ q ≤ k ∧ i = .int .i64 k ∧ o = .slice (some ⟨gq, 0, none⟩) q cq ∧ Picked wr w.heap.size gq q cq cs sl k (lessC (cs.take k) m) ix ∧ Below w.heap.size w wr) (fun _ i _ => n - (intOf i).toNat)
  case atStart => exact ⟨0, 0, w.heap.size, 0, fun i => i, Nat.zero_le _, Nat.le_refl _, rfl, rfl, ⟨by simp [lessC], by simpa [cvs] using (OwnC.made0 w).open0, fun i hi => by omega, fun i j _ hj => by omega⟩, (Below.refl _ _).alloc (Nat.le_refl _) _⟩
  case round =>
    obtain ⟨k, q, gq, cq, ix, hk, hq, rfl, rfl, hp, hbel⟩ := hrel
    have hs0 := hbel.size
    have BR := Lib.hid hbel
    have PR := Lib.hid hp
    clear hp hbel
    by_cases hlt : k < n
    · have h0 := RD.out wr BR.out (k * 2) (by omega)
      have h1 := RD.out wr BR.out (k * 2 + 1) (by omega)
      rw [cvs_at _ _ _ _ (by omega), cf0] at h0
      rw [cvs_at _ _ _ _ (by omega), cf1] at h1
      obtain ⟨sA, sn, sc, hsl⟩ : ∃ sA sn sc, (sl k).v = .slice sA sn sc := ⟨_, _, _, rfl⟩
      have HSL := Lib.hid hsl
      rw [hsl] at h1
      clear hsl
      have hst := lessC_step cs m k (by omega)
      obtain ⟨x, hx⟩ : ∃ x, (cel cs k).1 = x := ⟨_, rfl⟩
      rw [hx] at h0 hst
      have HST := Lib.hid hst
      have HX := Lib.hid hx
      clear hst hx
      by_cases he : x = m
      · have hb0 : (x != m) = false := by simp [he]
        go_wp2
        go_roundw
        case rel => exact ⟨k + 1, q, gq, cq, ix, by omega, by omega, by go_num, rfl, ⟨by rw [HST.out, if_pos he]; exact PR.out.len, by rw [HST.out, if_pos he]; exact PR.out.row, fun i hi => by rw [HST.out, if_pos he]; exact ⟨by have := (PR.out.at_ i hi).1; omega, (PR.out.at_ i hi).2⟩, PR.out.rise⟩, BR.out⟩
        case measure => simp [intOf]; omega
      · have hb0 : (x != m) = true := by simp [he]
        go_wp2_with (at_builtin; refine wpList_append_lies _ rfl _ _ 24 rfl w.heap.size 87 i0 (.agg #[.int .i64 0, .slice none 0 0]) 2 32 Tryz.underlying24 HI.out HZ0.out HZ1.out HZ2.out rfl (by decide) _ _ _ rfl (own_touch (S := fun _ => False) PR.out.row (Touch.of_below ((Below.refl _ _).alloc (Nat.le_refl _) _)) (fun _ _ h => h)) ⟨wr.heap.size, 0, none⟩ 1 1 [.int .i64 x, .slice sA sn sc] rfl ?a0 ?a1 ?a2 (by omega) ?a3 ?a4 ?a5 _ rfl ?_)
        case a0 => rfl
        case a1 =>
          intro j u hj
          match j, hj with
          | 0, hj => simp at hj; subst hj; simp [Addr.add]
          | 1, hj => simp at hj; subst hj; simp [Addr.add]
        case a2 => intro u hu; simp at hu; rcases hu with rfl | rfl <;> rfl
        case a3 => unfold maxLen; omega
        case a4 => omega
        case a5 => simp; omega
        intro g4 c4 w4 hown4 hgrow4 _ _
        have b4 : Below w.heap.size w w4 := (BR.out.trans (((Below.refl wr.heap.size wr).alloc (Nat.le_refl _) _).mono hs0)).grown hgrow4 (by simp; omega) (fun b hb => (PR.out.row.lt b hb).1)
        have hrow' : w4.ownsRow w.heap.size 87 2 (.slice (some ⟨g4, 0, none⟩) (q + 1) c4) (q + 1) (cvs (q + 1) (lessC (cs.take k) m ++ [cel cs k]) fun i => sl (if i = q then k else ix i)) := by
          have e1 : (fun i => sl (if i = q then k else ix i)) = fun i => if i = q then sl k else (fun i => sl (ix i)) i := by
            funext i
            by_cases h : i = q
            · simp [h]
            · simp [h]
          have e2 := cvs_append q (lessC (cs.take k) m) (fun i => sl (ix i)) (sl k) (cel cs k).1 (cel cs k).2 PR.out.len
          rw [e1, show cel cs k = ((cel cs k).1, (cel cs k).2) from rfl, ← e2, HX.out, HSL.out]
          exact hown4
        have RW := Lib.hid hrow'
        have B4 := Lib.hid b4
        clear hown4 hgrow4 hrow' b4 h0 h1
        go_wp2
        go_roundw
        case rel =>
          refine ⟨k + 1, q + 1, g4, c4, fun i => if i = q then k else ix i, by omega, by omega, by go_num, rfl, ⟨?_, ?_, fun i hi => ?_, fun i j hij hj => ?_⟩, B4.out⟩
          · rw [HST.out, if_neg he]; simp [PR.out.len]
          · rw [HST.out, if_neg he]; exact RW.out
          · rw [HST.out, if_neg he, cel_append, PR.out.len]
            by_cases h : i = q
            · simp only [h, if_true]; exact ⟨by omega, by trivial⟩
            · simp only [h, if_false]
              have := PR.out.at_ i (by omega)
              exact ⟨by omega, this.2⟩
          · by_cases h : j = q
            · have h1 : ¬ i = q := by omega
              simp only [h, h1, if_true, if_false]
              exact (PR.out.at_ i (by omega)).1
            · have h1 : ¬ i = q := by omega
              simp only [h, h1, if_false]
              exact PR.out.rise i j hij (by omega)
        case measure => simp [intOf]; omega
    · obtain rfl : k = n := by omega
      have hp := PR.out.own HSUB.out BR.out hlo
      rw [List.take_of_length_le (by omega)] at hp
      have HP := Lib.hid hp
      clear hp
      go_wp2
      go_ret
      exact ⟨_, _, _, rfl, HP.out, BR.out⟩
/-- what taking a name away makes of cells. -/
def LessIs (cs : List (Int × List Int)) (m : Int) (l : List (Int × List Int)) (b : Bool) : Prop :=
  (¬ Right cs ∧ l = [] ∧ b = false) ∨ (Right cs ∧ l = lessC cs m ∧ (b = true ↔ findC cs m < cs.length))
theorem LessIs.one {cs : List (Int × List Int)} {m : Int} {l l' : List (Int × List Int)} {b b' : Bool} (h : LessIs cs m l b) (h' : LessIs cs m l' b') : l = l' ∧ b = b' := by
  rcases h with ⟨a, rfl, rfl⟩ | ⟨a, rfl, h⟩ <;> rcases h' with ⟨a', rfl, rfl⟩ | ⟨a', rfl, h'⟩
  · exact ⟨rfl, rfl⟩
  · exact absurd a' a
  · exact absurd a a'
  · refine ⟨rfl, ?_⟩
    cases b <;> cases b'
    · rfl
    · exact absurd (h.2 (h'.1 rfl)) (by simp)
    · exact absurd (h'.2 (h.1 rfl)) (by simp)
    · rfl

end Go.Proofs.YtdhnhgppapkikaaGreatDoor

-- CellL: Plain facts on the sizes of what comes of cells. No statement of the program is proved here.
namespace Go.Proofs.YtdhnhgppapkikaaGreatDoor
set_option maxRecDepth 20000
set_option linter.unusedVariables false
set_option linter.unusedSimpArgs false
open Go.RowKit

theorem cel_bd (cs : List (Int × List Int)) (h : szC cs ≤ 1048576) (i : Nat) : (cel cs i).2.length ≤ 1048576 := by
  by_cases hi : i < cs.length
  · have := szC_cel cs i hi; omega
  · have e : cel cs i = (0, []) := by unfold cel; rw [List.getElem?_eq_none (by omega)]; rfl
    rw [e]; simp
theorem OwnC.nilc {w : World} {lo hi n c : Nat} {A : Option Addr} {cs : List (Int × List Int)} (h : OwnC w lo hi A n c cs) (hA : A = none) : c = 0 := by
  obtain ⟨hl, hu, sl, hr, hs⟩ := h
  rcases hr.2 with ⟨e, _⟩ | ⟨g, cap, cur, e, _⟩
  · cases e; rfl
  · subst hA; cases e
theorem szC_filter (cs : List (Int × List Int)) (p : Int × List Int → Bool) : szC (cs.filter p) ≤ szC cs := by
  induction cs with
  | nil => simp
  | cons x r ih =>
    rw [List.filter_cons]
    split
    · simp [szC]; omega
    · simp [szC]; omega
theorem less_bd {cs l : List (Int × List Int)} {m : Int} {b : Bool} (h : LessIs cs m l b) (hs : szC cs ≤ 1048576) : szC l ≤ 1048576 := by
  rcases h with ⟨_, rfl, _⟩ | ⟨_, rfl, _⟩
  · simp [szC]
  · exact Nat.le_trans (szC_filter _ _) hs
theorem nodeBytes_bd (nd : MNode) (h : nodeOk nd = true) (hp : nd.path.length ≤ 1048576) : (nodeBytes nd).length ≤ 1000000000 := by
  have h1 := nodeBytes_len nd
  have h3 := nodeOk_val nd h
  have h4 := kidsOk_len nd.kids (nodeOk_parts nd h).2.1
  omega
theorem nodeBytes_small (nd : MNode) (h : nodeOk nd = true) : (nodeBytes nd).length ≤ 1000000 := by
  have h1 := nodeBytes_len nd
  have h2 := (nodeOk_parts nd h)
  have h3 := nodeOk_val nd h
  have h4 := kidsOk_len nd.kids h2.2.1
  have h5 : nd.path.length ≤ 900000 := by
    have := h2.1
    unfold isPath at this
    simp at this
    omega
  omega
theorem with_bd {cs l : List (Int × List Int)} {nd : MNode} {m : Int} (h : WithIs cs nd l m) (hs : szC cs ≤ 1048576) : szC l ≤ 3000000 ∧ l.length ≤ 81 ∧ ∀ i, (cel l i).2.length ≤ 1048576 := by
  have hm := cel_bd cs hs
  have hsame : Right cs → szC cs ≤ 3000000 ∧ cs.length ≤ 81 ∧ ∀ i, (cel cs i).2.length ≤ 1048576 := fun h => ⟨by omega, by have := h.1; omega, hm⟩
  rcases h with ⟨_, rfl, _⟩ | ⟨hR, _, rfl, _⟩ | ⟨hR, _, _, rfl, _⟩ | ⟨hR, _, _, _, rfl, _⟩ | ⟨hR, hok, _, h80, rfl, _⟩
  · exact ⟨by simp [szC], by simp, fun i => by simp [cel]⟩
  · exact hsame hR
  · exact hsame hR
  · exact hsame hR
  · have hb := nodeBytes_small nd hok
    refine ⟨?_, by rw [insC_len]; omega, fun i => ?_⟩
    · have e : szC cs = szC (cs.take (placeC cs (nameOf (nodeBytes nd)))) + szC (cs.drop (placeC cs (nameOf (nodeBytes nd)))) := by rw [← szC_append, List.take_append_drop]
      unfold insC
      rw [szC_append]
      simp only [szC]
      omega
    · unfold insC
      rw [cel_ins cs _ _ (placeC_le _ _)]
      split
      · exact hm i
      · split
        · simp only; omega
        · exact hm (i - 1)
theorem reach_bd {cs : List (Int × List Int)} {roots l : List Int} {b : Bool} (h : ReachIs cs roots l b) : l.length ≤ 1360 := by
  rcases h with ⟨_, rfl, _⟩ | ⟨⟨hR, hr⟩, h1, h2, _⟩
  · simp
  · obtain ⟨u, hu, hx⟩ := reach_bound cs roots
    have := riseI_len l u h1 fun x hx' => hx x ((h2 x).1 hx')
    have := hR.1
    omega
theorem OwnI.cap_ {w : World} {base n c : Nat} {A : Option Addr} {xs : List Int} (h : OwnI w base A n c xs) : n ≤ c := by
  rcases h.2 with ⟨e, hx⟩ | ⟨g', cap, cur, e, _, _, hn, _⟩
  · have e2 : n = 0 := by simpa using hx
    omega
  · cases e; exact hn
theorem OwnI.nilc {w : World} {base n c : Nat} {A : Option Addr} {xs : List Int} (h : OwnI w base A n c xs) (hA : A = none) : c = 0 := by
  rcases h.2 with ⟨e, _⟩ | ⟨g, cap, cur, e, _⟩
  · cases e; rfl
  · subst hA; cases e
end Go.Proofs.YtdhnhgppapkikaaGreatDoor

-- BaseX: What the laws' helpers do with a base: its size, a copy, two alike, marks.
namespace Go.Proofs.YtdhnhgppapkikaaGreatDoor
set_option maxRecDepth 20000
set_option linter.unusedVariables false
set_option linter.unusedSimpArgs false
open Go.RowKit

/-- how much a base takes. -/
def szB (b : MBase) : Nat := szC b.cells + b.pins.length + b.grey.length + b.black.length
theorem szInts_any (A : Option Addr) (n c left : Nat) (w : World) (hn : n ≤ maxLen) (hl : left ≤ 1048576) :
    Calls Tryz.prog 38 #[.slice A n c, .int .i64 left] w fun e w' => e = .returned (.int .i64 (if n ≤ left then ((left - n : Nat) : Int) else -1)) ∧ w = w' := by
  unfold maxLen at hn
  by_cases h : n ≤ left
  · rw [if_pos h]
    go_enter Tryz.func38, Tryz.ntmps38
    go_wp2
    go_ret
    exact ⟨ret_i64 (by omega), rfl⟩
  · rw [if_neg h]
    go_enter Tryz.func38, Tryz.ntmps38
    go_wp2
    go_ret
    exact ⟨rfl, rfl⟩
theorem szBase_any (L : BLay) (b : MBase) (w : World) (hn : L.n ≤ maxLen) (hp : L.np ≤ maxLen) (hg : L.ng ≤ maxLen) (hb : L.nb ≤ maxLen) (hm : ∀ i, (cel b.cells i).2.length ≤ maxLen) (hi : BaseIn w w.heap.size L b) :
    Calls Tryz.prog 15 #[L.v b, .int .i64 1048576] w fun e w' => e = .returned (.int .i64 (leftOf 1048576 (szB b))) ∧ Below w.heap.size w w' := by
  obtain ⟨A, n, c, Ap, np, cp, Ag, ng, cg, Ab, nb, cb⟩ := L
  obtain ⟨cs, head, pins, phase, grey, black, cursor⟩ := b
  obtain ⟨hC, hP, hG, hB⟩ := hi
  simp only at hn hp hg hb hm hC hP hG hB
  have hlp := hP.1
  have hlg := hG.1
  have hlb := hB.1
  unfold BLay.v szB
  simp only
  obtain ⟨w1, hw1⟩ : ∃ w1, w.alloc (.cells #[.slice A n c, .int .i64 head, .slice Ap np cp, .int .i64 phase, .slice Ag ng cg, .slice Ab nb cb, .int .i64 cursor] 39) = w1 := ⟨_, rfl⟩
  have x1 : Box w1 w.heap.size _ _ := hw1 ▸ heap_alloc_new _ _
  have b1 : Below w.heap.size w w1 := hw1 ▸ (Below.refl _ _).alloc (Nat.le_refl _) _
  have X1 := Lib.hid x1
  have B1 := Lib.hid b1
  have q0 := x1.cell 0
  simp at q0
  have s1 : w.heap.size ≤ w1.heap.size := b1.size
  have hxl : w.heap.size < w1.heap.size := x1.lt
  have HC := Lib.hid ((hC.below b1).more s1)
  clear x1 b1 hC hP hG hB
  obtain ⟨R, hR⟩ : ∃ R : Int, leftOf 1048576 (szC cs + pins.length + grey.length + black.length) = R := ⟨_, rfl⟩
  rw [hR]
  have HR := Lib.hid hR
  clear hR
  go_enter Tryz.func15, Tryz.ntmps15
  go_wp2_with fail
  refine (szCells_any A n c cs w1 hn hm HC.out).mono ?_
  rintro e w2 ⟨rfl, b2⟩
  have B2 := Lib.hid (B1.out.trans (b2.mono s1))
  have x2 := X1.out.below b2 hxl
  have q2 := x2.cell 2
  have q4 := x2.cell 4
  have q5 := x2.cell 5
  simp at q2 q4 q5
  clear b2 x2 q0
  by_cases hs : szC cs ≤ 1048576
  case neg =>
    obtain rfl : -1 = R := by rw [← HR.out]; exact (if_neg (by omega)).symm
    rw [show leftOf 1048576 (szC cs) = -1 from if_neg hs]
    go_wp2
    go_ret
    exact ⟨rfl, B2.out⟩
  rw [show leftOf 1048576 (szC cs) = ((1048576 - szC cs : Nat) : Int) from if_pos hs]
  have hd0 : decide (((1048576 - szC cs : Nat) : Int) < 0) = false := decide_eq_false (by omega)
  go_wp2_with fail
  refine (szInts_any Ap np cp (1048576 - szC cs) w2 hp (by omega)).mono ?_
  rintro e w' ⟨rfl, rfl⟩
  by_cases h1 : np ≤ 1048576 - szC cs
  case neg =>
    obtain rfl : -1 = R := by rw [← HR.out]; exact (if_neg (by omega)).symm
    rw [if_neg h1]
    go_wp2
    go_ret
    exact ⟨rfl, B2.out⟩
  rw [if_pos h1]
  have hd1 : decide (((1048576 - szC cs - np : Nat) : Int) < 0) = false := decide_eq_false (by omega)
  go_wp2_with fail
  refine (szInts_any Ag ng cg (1048576 - szC cs - np) w2 hg (by omega)).mono ?_
  rintro e w' ⟨rfl, rfl⟩
  by_cases h2 : ng ≤ 1048576 - szC cs - np
  case neg =>
    obtain rfl : -1 = R := by rw [← HR.out]; exact (if_neg (by omega)).symm
    rw [if_neg h2]
    go_wp2
    go_ret
    exact ⟨rfl, B2.out⟩
  rw [if_pos h2]
  have hd2 : decide (((1048576 - szC cs - np - ng : Nat) : Int) < 0) = false := decide_eq_false (by omega)
  go_wp2_with fail
  refine (szInts_any Ab nb cb (1048576 - szC cs - np - ng) w2 hb (by omega)).mono ?_
  rintro e w' ⟨rfl, rfl⟩
  by_cases h3 : nb ≤ 1048576 - szC cs - np - ng
  case neg =>
    obtain rfl : -1 = R := by rw [← HR.out]; exact (if_neg (by omega)).symm
    rw [if_neg h3]
    go_wp2
    go_ret
    exact ⟨rfl, B2.out⟩
  rw [if_pos h3]
  have hd3 : decide (((1048576 - szC cs - np - ng - nb : Nat) : Int) < 0) = false := decide_eq_false (by omega)
  obtain rfl : ((1048576 - szC cs - np - ng - nb : Nat) : Int) = R := by rw [← HR.out]; unfold leftOf; rw [if_pos (by omega)]; omega
  go_wp2
  go_ret
  exact ⟨rfl, B2.out⟩

/-- the lists of a base that the call made, in blocks of their own, one behind the other. -/
structure OwnBase (w : World) (lo h1 h2 h3 hi : Nat) (L : BLay) (b : MBase) : Prop where
  cells : OwnC w lo h1 L.A L.n L.c b.cells
  pins : OwnI w h1 L.Ap L.np L.cp b.pins
  grey : OwnI w h2 L.Ag L.ng L.cg b.grey
  black : OwnI w h3 L.Ab L.nb L.cb b.black
  up : ∀ g, (Value.slice L.Ap L.np L.cp).ownBlock = some g → g < h2
  ug : ∀ g, (Value.slice L.Ag L.ng L.cg).ownBlock = some g → g < h3
  ub : ∀ g, (Value.slice L.Ab L.nb L.cb).ownBlock = some g → g < hi
  o0 : lo ≤ h1
  o1 : h1 ≤ h2
  o2 : h2 ≤ h3
  o3 : h3 ≤ hi
section
variable {w w' : World} {lo h1 h2 h3 hi : Nat} {L : BLay} {b : MBase}
theorem OwnI.up {base n c hi : Nat} {A : Option Addr} {xs : List Int} (h : OwnI w base A n c xs) (hu : ∀ g, (Value.slice A n c).ownBlock = some g → g < hi) : Ints w hi A n xs := by
  refine ⟨h.len, fun hp => ?_⟩
  obtain ⟨b, off, e, hb, hc⟩ := h.ints.2 hp
  obtain ⟨g, e', _⟩ := h.form hp
  rw [e] at e'
  cases e'
  exact ⟨b, 0, e, hu b (by rw [e]; simp [Value.ownBlock]), hc⟩
theorem OwnBase.inn (h : OwnBase w lo h1 h2 h3 hi L b) : BaseIn w hi L b :=
  ⟨h.cells.cells.more (by have := h.o1; have := h.o2; have := h.o3; omega), (h.pins.up h.up).more (by have := h.o2; have := h.o3; omega), (h.grey.up h.ug).more h.o3, h.black.up h.ub⟩
theorem OwnBase.below (h : OwnBase w lo h1 h2 h3 hi L b) (hb : Below hi w w') : OwnBase w' lo h1 h2 h3 hi L b := by
  have := h.o0
  have := h.o1
  have := h.o2
  have := h.o3
  have t : Touch (fun k => hi ≤ k) w w' := ⟨hb.os, hb.tape, hb.output, hb.size, fun k hk hs => hb.block k (by omega)⟩
  exact ⟨h.cells.touch t (fun b _ h1 h2 => by omega), h.pins.touch t (fun g hg e => by have := h.up g hg; omega), h.grey.touch t (fun g hg e => by have := h.ug g hg; omega), h.black.touch t (fun g hg e => by have := h.ub g hg; omega), h.up, h.ug, h.ub, h.o0, h.o1, h.o2, h.o3⟩
theorem OwnBase.fit (h : OwnBase w lo h1 h2 h3 hi L b) (hs : szB b ≤ 1048576) : BaseFit L b := by
  have hl := szC_len b.cells
  have e0 := h.cells.len
  have e1 := h.pins.len
  have e2 := h.grey.len
  have e3 := h.black.len
  unfold szB at hs
  exact ⟨by omega, cel_bd b.cells (by omega), h.cells.cap, h.pins.cap_, h.grey.cap_, h.black.cap_, h.cells.nilc, h.pins.nilc, h.grey.nilc, h.black.nilc⟩
end
def GaveBase (w : World) (b : MBase) (e : Ending) (w' : World) : Prop := ∃ L h1 h2 h3, e = .returned (BLay.v L b) ∧ OwnBase w' w.heap.size h1 h2 h3 w'.heap.size L b ∧ Below w.heap.size w w'
end Go.Proofs.YtdhnhgppapkikaaGreatDoor
