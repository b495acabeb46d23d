/- Several texts in one, in build order: ReachL, ReachO, RowL, Srch, InsI, InsN, Sl, SlAt, SlPut. -/
import Derived.Test.YtopaobjpcafjlaaPkC
import Derived.Shelf.Spec.SlicesInsertGrow
import Derived.StillTailTactics
import Derived.Deep.RegionHeld3
-- ReachL: The model's ReachOf: its loop.
namespace Go.Proofs.Ytopaobjpcafjlaa
set_option maxRecDepth 20000
set_option linter.unusedVariables false
set_option linter.unusedSimpArgs false
open Go.RowKit

def lenOf : Value → Nat
  | .slice _ n _ => n
  | _ => 0
/-- what is told of the names found and of those to be looked at. -/
structure Going (cs : List (Int × List Int)) (roots out todo : List Int) (b : Bool) : Prop where
  rise : RiseI out
  reach : ∀ x, x ∈ out → Reached cs roots x
  todos : ∀ x, x ∈ todo → x = 0 ∨ Reached cs roots x
  root : ∀ r, r ∈ roots → r ≠ 0 → r ∈ out ∨ r ∈ todo
  kid : ∀ y k, y ∈ out → KidOf cs y k → k ∈ out ∨ k ∈ todo
  whole : b = true ↔ ∀ x, x ∈ out → findC cs x < cs.length
theorem Going.start (cs : List (Int × List Int)) (roots : List Int) : Going cs roots [] roots true :=
  ⟨List.Pairwise.nil, fun x h => by simp at h, fun x h => by
    by_cases h0 : x = 0
    · exact .inl h0
    · exact .inr (Reached.root h h0), fun r h _ => .inr h, fun y k h => by simp at h, ⟨fun _ x h => by simp at h, fun _ => rfl⟩⟩
theorem Going.skip {cs : List (Int × List Int)} {roots out todo : List Int} {b : Bool} {m : Int} (h : Going cs roots out (todo ++ [m]) b) (hm : m = 0 ∨ m ∈ out) : Going cs roots out todo b := by
  refine ⟨h.rise, h.reach, fun x hx => h.todos x (List.mem_append_left _ hx), fun r hr h0 => ?_, fun y k hy hk => ?_, h.whole⟩
  · rcases h.root r hr h0 with h1 | h1
    · exact .inl h1
    · rcases List.mem_append.1 h1 with h2 | h2
      · exact .inr h2
      · simp at h2
        subst h2
        rcases hm with e | e
        · exact absurd e h0
        · exact .inl e
  · rcases h.kid y k hy hk with h1 | h1
    · exact .inl h1
    · rcases List.mem_append.1 h1 with h2 | h2
      · exact .inr h2
      · simp at h2
        subst h2
        rcases hm with e | e
        · exact absurd e (kidOf_pos hk)
        · exact .inl e
theorem Going.take {cs : List (Int × List Int)} {roots out todo : List Int} {b is : Bool} {m : Int} {nd : MNode} (hR : Right cs) (h : Going cs roots out (todo ++ [m]) b) (h0 : m ≠ 0) (hm : m ∉ out) (hit : HitIs cs m nd is) :
    Going cs roots (insI out m) (todo ++ nd.kids.map (·.2)) (b && is) := by
  have hr : Reached cs roots m := by
    rcases h.todos m (by simp) with e | e
    · exact absurd e h0
    · exact e
  refine ⟨insI_rise out m h.rise hm, fun x hx => ?_, fun x hx => ?_, fun r hr' hr0 => ?_, fun y k hy hk => ?_, ?_⟩
  · rcases (insI_mem out m x).1 hx with e | e
    · rw [e]; exact hr
    · exact h.reach x e
  · rcases List.mem_append.1 hx with h1 | h1
    · exact h.todos x (List.mem_append_left _ h1)
    · obtain ⟨⟨a, k⟩, hp, rfl⟩ := List.mem_map.1 h1
      right
      cases is with
      | true => exact hr.kid ⟨nd, a, hit, hp⟩
      | false =>
        have hn : nd = node0 := by
          rcases hit with ⟨_, ⟨h, _⟩ | ⟨_, h, _⟩⟩ | ⟨_, h, _⟩
          · cases h
          · exact h
          · exact h
        rw [hn] at hp
        simp [node0] at hp
  · rcases h.root r hr' hr0 with h1 | h1
    · exact .inl ((insI_mem out m r).2 (.inr h1))
    · rcases List.mem_append.1 h1 with h2 | h2
      · exact .inr (List.mem_append_left _ h2)
      · simp at h2
        exact .inl ((insI_mem out m r).2 (.inl h2))
  · rcases (insI_mem out m y).1 hy with e | e
    · subst e
      obtain ⟨nd', a, h1, h2⟩ := hk
      obtain ⟨rfl, rfl⟩ := hit.one h1
      exact .inr (List.mem_append_right _ (List.mem_map.2 ⟨(a, k), h2, rfl⟩))
    · rcases h.kid y k e hk with h1 | h1
      · exact .inl ((insI_mem out m k).2 (.inr h1))
      · rcases List.mem_append.1 h1 with h2 | h2
        · exact .inr (List.mem_append_left _ h2)
        · simp at h2
          exact .inl ((insI_mem out m k).2 (.inl h2))
  · have hf := hit_found hR hit
    constructor
    · intro hb x hx
      have hb : b = true ∧ is = true := by simpa using hb
      rcases (insI_mem out m x).1 hx with e | e
      · rw [e]; exact hf.1 hb.2
      · exact h.whole.1 hb.1 x e
    · intro hx
      have h1 : b = true := h.whole.2 fun x hxo => hx x ((insI_mem out m x).2 (.inr hxo))
      have h2 : is = true := hf.2 (hx m ((insI_mem out m m).2 (.inl rfl)))
      simp [h1, h2]
theorem Going.done {cs : List (Int × List Int)} {roots out : List Int} {b : Bool} (h : Going cs roots out [] b) (x : Int) : x ∈ out ↔ Reached cs roots x := by
  refine ⟨h.reach x, fun hx => hx (· ∈ out) (fun r hr h0 => ?_) (fun y k hy hk => ?_)⟩
  · rcases h.root r hr h0 with h1 | h1
    · exact h1
    · simp at h1
  · rcases h.kid y k hy hk with h1 | h1
    · exact h1
    · simp at h1
theorem Going.len {cs : List (Int × List Int)} {roots out todo : List Int} {b : Bool} (h : Going cs roots out todo b) : out.length ≤ roots.length + 16 * cs.length := by
  obtain ⟨u, hu, hx⟩ := reach_bound cs roots
  exact Nat.le_trans (riseI_len out u h.rise fun x hx' => hx x (h.reach x hx')) hu
theorem hit_kids {cs : List (Int × List Int)} {m : Int} {nd : MNode} {b : Bool} (h : HitIs cs m nd b) : nd.kids.length ≤ 16 := by
  cases b with
  | true => exact kidsOk_len nd.kids (nodeOk_parts nd (hit_ok h)).2.1
  | false =>
    have hn : nd = node0 := by
      rcases h with ⟨_, ⟨h, _⟩ | ⟨_, h, _⟩⟩ | ⟨_, h, _⟩
      · cases h
      · exact h
      · exact h
    rw [hn]; simp [node0]

theorem OwnI.short {w : World} {base g q c : Nat} {xs : List Int} (h : OwnI w base (some ⟨g, 0, none⟩) (q + 1) c xs) : OwnI w base (some ⟨g, 0, none⟩) q c (xs.take q) := by
  have hl := h.len
  refine ⟨by simp; omega, ?_⟩
  rcases h.2 with ⟨e, _⟩ | ⟨g', cap, cur, e, hb, hg, hn, hc, hs, ht⟩
  · cases e
  · refine .inr ⟨g', cap, cur, ?_, hb, hg, by omega, hc, hs, ?_⟩
    · cases e; rfl
    · rw [Nat.mul_one] at ht ⊢
      rw [List.map_take, ← ht, List.take_take]
      congr 1; omega
theorem OwnI.last {w : World} {base g q c : Nat} {xs : List Int} (h : OwnI w base (some ⟨g, 0, none⟩) (q + 1) c xs) : xs = xs.take q ++ [xs[q]?.getD 0] := by
  have hl := h.len
  conv => lhs; rw [← List.take_append_drop q xs]
  rw [List.drop_eq_getElem_cons (by omega), List.getElem?_eq_getElem (by omega), List.drop_eq_nil_of_le (by omega)]
  rfl
theorem OwnI.cap {w : World} {base g n c : Nat} {xs : List Int} (h : OwnI w base (some ⟨g, 0, none⟩) n c xs) : n ≤ c := by
  rcases h.2 with ⟨e, _⟩ | ⟨g', cap, cur, e, _, _, hn, _⟩
  · cases e
  · cases e; exact hn
set_option maxHeartbeats 1600000 in
theorem l4Reach_any (A : Option Addr) (n c : Nat) (cs : List (Int × List Int)) (Ar : Option Addr) (nr cr : Nat) (roots : List Int) (B : Nat) (w : World) (hm : ∀ i, (cel cs i).2.length ≤ 1048576) (hR : Right cs) (hr : roots.length ≤ 80) (hA : Ar = none → cr = 0) (hB : B ≤ w.heap.size) (hb : Cells w B A n cs) (hbr : Ints w B Ar nr roots) :
    Calls Try.prog 16 #[.slice A n c, .slice Ar nr cr] w fun e w' => ∃ g n' c' l b, e = .returned (.tuple #[.slice (some ⟨g, 0, none⟩) n' c', .bool b]) ∧ Going cs roots l [] b ∧ OwnI w' w.heap.size (some ⟨g, 0, none⟩) n' c' l ∧ Below w.heap.size w w' := by
  have HB := Lib.hid (hb.more hB)
  have HBR := Lib.hid (hbr.more hB)
  have hlen := hb.1
  have hlr := hbr.1
  have RT := Lib.hid hR
  have hn80 : n ≤ 80 := by have := hR.1; omega
  clear hb hbr hR
  have b1 : Below w.heap.size w (w.alloc (.cells #[] 2)) := (Below.refl _ _).alloc (Nat.le_refl _) _
  have B1 := Lib.hid b1
  have E1 := Lib.hid (OwnI.empty w w.heap.size (Nat.le_refl _))
  clear b1
  obtain ⟨i0, hi, hz0, hz1, hz2⟩ := info_parts Try.infoI
  have HI := Lib.hid hi
  have HZ0 := Lib.hid hz0
  have HZ1 := Lib.hid hz1
  have HZ2 := Lib.hid hz2
  clear hi hz0 hz1 hz2
  go_enter Try.func16, Try.ntmps16
  go_wp2_with fail
  refine (l1Copy_any Ar nr cr roots w.heap.size _ (by omega) (by simp) hA (HBR.out.below B1.out)).mono ?_
  rintro e w2 ⟨g2, c2, rfl, o2, b2⟩
  have B2 := Lib.hid (B1.out.trans (b2.mono (by simp)))
  have E2 := Lib.hid (E1.out.below b2)
  have O2 := Lib.hid o2
  have hg2 : w.heap.size + 1 ≤ g2 := by have := (World.ownsRow.lt o2 g2 (by simp [Value.ownBlock])).1; simpa using this
  clear o2 b2
  go_wp2
  go_loopw [6, 7, 8] (fun o h t wr => ∃ (go no co gt nt ct : Nat) (out todo : List Int) (b : Bool), o = .slice (some ⟨go, 0, none⟩) no co ∧ h = .bool b ∧ t = .slice (some ⟨gt, 0, none⟩) nt ct ∧ go ≠ gt ∧ nt + 17 * (1360 - no) ≤ 23200 ∧
    OwnI wr w.heap.size (some ⟨go, 0, none⟩) no co out ∧ OwnI wr w.heap.size (some ⟨gt, 0, none⟩) nt ct todo ∧ Going cs roots out todo b ∧ Below w.heap.size w wr) (fun o _ t _ => lenOf t + 17 * (1360 - lenOf o))
  case atStart => exact ⟨w.heap.size, 0, 0, g2, nr, c2, [], roots, true, rfl, rfl, rfl, by omega, by omega, E2.out, O2.out.base (by simp), Going.start cs roots, B2.out⟩
  case round =>
    obtain ⟨go, no, co, gt, nt, ct, out, todo, b, rfl, rfl, rfl, hne, hbd, ho, ht, hgo, hbel⟩ := hrel
    have hlo := ho.len
    have hlt := ht.len
    have hgl := hgo.len
    have hs0 := hbel.size
    have BR := Lib.hid hbel
    have OR := Lib.hid ho
    have TR := Lib.hid ht
    have GR := Lib.hid hgo
    clear hbel ho ht hgo
    by_cases h0 : nt = 0
    · obtain rfl := h0
      obtain rfl : todo = [] := List.eq_nil_of_length_eq_zero hlt
      go_wp2
      go_ret2
      exact ⟨_, _, _, out, b, rfl, GR.out, OR.out, BR.out⟩
    · obtain ⟨q, rfl⟩ : ∃ q, nt = q + 1 := ⟨nt - 1, by omega⟩
      have hq0 := TR.out.cell (k := q) (by omega)
      have hlast := TR.out.last
      obtain ⟨m, hmq⟩ : ∃ m, todo[q]?.getD 0 = m := ⟨_, rfl⟩
      rw [hmq] at hq0 hlast
      have G1 := GR.out
      rw [hlast] at G1
      have GR := Lib.hid G1
      have hct := TR.out.cap
      have T1 := Lib.hid TR.out.short
      clear G1 TR hlast hmq
      generalize todo.take q = td at T1 GR
      have hd : decide ((0 : Int) < ((q + 1 : Nat) : Int)) = true := decide_eq_true (by omega)
      have hwk : IntKind.i64.wrap (((q + 1 : Nat) : Int) - 1) = (q : Int) := by rw [IntKind.wrap_i64]; omega
      by_cases hm0 : m = 0
      · have hb0 : (m == 0) = true := by simp [hm0]
        go_wp2
        go_roundw
        case rel => exact ⟨go, no, co, gt, q, ct, out, td, b, rfl, rfl, rfl, hne, by omega, OR.out, T1.out, GR.out.skip (.inl hm0), BR.out⟩
        case measure => simp [lenOf]
      · have hb0 : (m == 0) = false := by simpa using hm0
        have HM0 := Lib.hid hm0
        clear hm0
        have hno : no ≤ 1360 := by omega
        go_wp2_with fail
        refine (l4In_any _ no co out m _ wr (by omega) OR.out.ints).mono ?_
        rintro e w' ⟨rfl, rfl⟩
        by_cases hin : m ∈ out
        · rw [decide_eq_true hin]
          have HIN := Lib.hid hin
          clear hin
          go_wp2
          go_roundw
          case rel => exact ⟨go, no, co, gt, q, ct, out, td, b, rfl, rfl, rfl, hne, by omega, OR.out, T1.out, GR.out.skip (.inr HIN.out), BR.out⟩
          case measure => simp [lenOf]
        · rw [decide_eq_false hin]
          have HIN := Lib.hid hin
          clear hin
          go_wp2_with fail
          refine (l4Into_any go no co out m _ wr (by omega) OR.out.cap (Nat.le_refl _) OR.out.ints GR.out.rise).mono ?_
          rintro e w3 ⟨b3, h3⟩
          rcases h3 with ⟨h3, _⟩ | ⟨_, g3, c3, rfl, o3⟩
          · exact absurd h3 HIN.out
          have O3 := Lib.hid o3
          have T3 := Lib.hid (T1.out.below b3)
          have B3 := Lib.hid (BR.out.trans (b3.mono hs0))
          have hs3 : wr.heap.size ≤ w3.heap.size := b3.size
          have hg3 : wr.heap.size ≤ g3 := (World.ownsRow.lt o3 g3 (by simp [Value.ownBlock])).1
          have hgt : gt < wr.heap.size := (World.ownsRow.lt T1.out gt (by simp [Value.ownBlock])).2
          clear b3 o3 OR
          go_wp2_with fail
          refine (l4Node_any A n c cs m w.heap.size w3 (by omega) hm (by omega) (HB.out.below B3.out)).mono ?_
          rintro e w4 ⟨v, nd, is, rfl, own, hit, b4⟩
          have O4 := Lib.hid (O3.out.below b4)
          have T4 := Lib.hid (T3.out.below b4)
          have B4 := Lib.hid (B3.out.trans (b4.mono (by omega)))
          have hs4 : w3.heap.size ≤ w4.heap.size := b4.size
          have HIT := Lib.hid hit
          obtain ⟨Ap, np, cp, Ak, nk, ck, rfl, hnp, hnk, hsz, hp, hk, hap⟩ := own
          have HKK := Lib.hid hk
          have h16 := hit_kids hit
          have hkl := hk.len
          clear hp hk hap b4 hit O3 T3 T1
          obtain ⟨w5, hw5⟩ : ∃ w5, w4.alloc (.cells #[.int .i64 0, .slice none 0 0, .slice none 0 0, .string { data := #[] }] 52) = w5 := ⟨_, rfl⟩
          have x5 : Box w5 w4.heap.size _ _ := hw5 ▸ heap_alloc_new _ _
          have b5 : Below w4.heap.size w4 w5 := hw5 ▸ (Below.refl _ _).alloc (Nat.le_refl _) _
          have X5 := Lib.hid x5
          obtain ⟨w6, hw6⟩ : ∃ w6, (((w5.setCell ⟨w4.heap.size, 0, none⟩ (.int .i64 nd.kind)).setCell ⟨w4.heap.size, 1, none⟩ (.slice Ap np cp)).setCell ⟨w4.heap.size, 2, none⟩ (.slice Ak nk ck)).setCell ⟨w4.heap.size, 3, none⟩ (.string nd.val) = w6 := ⟨_, rfl⟩
          have h4' := set4 x5 (.int .i64 nd.kind) (.slice Ap np cp) (.slice Ak nk ck) (.string nd.val)
          have t6 : Touch (fun b => b = w4.heap.size) w5 w6 := hw6 ▸ h4'.2
          have x6 : Box w6 w4.heap.size 52 #[.int .i64 nd.kind, .slice Ap np cp, .slice Ak nk ck, .string nd.val] := hw6 ▸ h4'.1
          have b6 : Below w4.heap.size w4 w6 := b5.trans (t6.below b5.size (fun b hb e => by omega))
          have X6 := Lib.hid x6
          have O6 := Lib.hid (O4.out.below b6)
          have T6 := Lib.hid (T4.out.below b6)
          have K6 := Lib.hid (HKK.out.below b6)
          have B6 := Lib.hid (B4.out.trans (b6.mono (by omega)))
          have hs6 : w4.heap.size ≤ w6.heap.size := b6.size
          have q20 := X5.out.cell 0
          have q21 := X5.out.cell 1
          have q22 := X5.out.cell 2
          have q23 := X5.out.cell 3
          have f2 := X5.out.free
          have q62 := X6.out.cell 2
          simp at q20 q21 q22 q23 q62
          clear x5 b5 h4' t6 x6 b6
          cases b with
          | false =>
            have GT := Lib.hid (GR.out.take RT.out HM0.out HIN.out HIT.out)
            have hgtl : w.heap.size ≤ gt := (World.ownsRow.lt T6.out gt (by simp [Value.ownBlock])).1
            have hx4 := X6.out.lt
            go_wp2
            go_loopw [8, 12] (fun t i wr => ∃ (k gk ck' : Nat), k ≤ nk ∧ i = .int .i64 k ∧ t = .slice (some ⟨gk, 0, none⟩) (q + k) ck' ∧ (gk = gt ∨ w6.heap.size ≤ gk) ∧ OwnI wr w.heap.size (some ⟨gk, 0, none⟩) (q + k) ck' (td ++ (nd.kids.take k).map (·.2)) ∧ Touch (fun b => b = gt ∨ w6.heap.size ≤ b) w6 wr) (fun _ i _ => nk - (intOf i).toNat)
            case atStart => exact ⟨0, gt, ct, Nat.zero_le _, rfl, rfl, .inl rfl, by simpa using T6.out, Touch.of_below (Below.refl _ _)⟩
            case round =>
              obtain ⟨k, gk, ck', hkn, rfl, rfl, hgk, htk, htt⟩ := hrel
              have TK := Lib.hid htk
              have TT := Lib.hid htt
              have hsv : w6.heap.size ≤ wr.heap.size := htt.size
              have xv : Box wr w4.heap.size 52 #[.int .i64 nd.kind, .slice Ap np cp, .slice Ak nk ck, .string nd.val] := (htt.block _ hx4 (fun e => by rcases e with e | e <;> omega)).trans X6.out
              have qv := xv.cell 2
              simp at qv
              have kv' := K6.out.touch htt (fun b hb e => by have h1 := (World.ownsRow.lt HKK.out b hb); rcases e with e | e <;> omega)
              have KV := Lib.hid kv'
              have XV := Lib.hid xv
              clear htk htt xv kv' q62
              by_cases hlk : k < nk
              · obtain ⟨gb, rfl, _, _⟩ := KV.out.form (by omega)
                have hk1 := KV.out.cell1 hlk
                have hst : (nd.kids.take (k + 1)).map (·.2) = (nd.kids.take k).map (·.2) ++ [(nd.kids[k]?.getD (0, 0)).2] := by
                  rw [List.take_succ_eq_append_getElem (by omega), List.map_append, List.getElem?_eq_getElem (by omega)]; rfl
                have HST := Lib.hid hst
                obtain ⟨L, hL⟩ : ∃ L, td ++ (nd.kids.take k).map (·.2) = L := ⟨_, rfl⟩
                have TK := TK.out
                rw [hL] at TK
                have TK := Lib.hid TK
                have HL := Lib.hid hL
                clear hst hL
                generalize (nd.kids[k]?.getD (0, 0)).2 = z at hk1 HST
                go_wp2_with (at_builtin; refine wpList_append_lies _ rfl _ _ 23 rfl w.heap.size 2 i0 (.int .i64 0) 1 8 Try.underlying23 HI.out HZ0.out HZ1.out HZ2.out rfl (by decide) _ _ _ rfl (own_touch (S := fun _ => False) TK.out (Touch.of_below ((Below.refl _ _).alloc (Nat.le_refl _) _)) (fun _ _ h => h)) ⟨wr.heap.size, 0, none⟩ 1 1 [.int .i64 z] rfl ?bq0 ?bq1 ?bq2 (by omega) ?bq3 ?bq4 ?bq5 _ rfl ?_)
                case bq2 => first | rfl | (intro u hu; simp at hu; subst hu; rfl)
                case bq3 => unfold maxLen; omega
                case bq4 => omega
                case bq5 => first | omega | (simp; omega)
                intro g7 c7 w7 hown7 hgrow7 hor7 _
                have t7 : Touch (fun b => b = gt ∨ w6.heap.size ≤ b) wr w7 := (Touch.of_below ((Below.refl wr.heap.size wr).alloc (Nat.le_refl _) _)).trans ((Touch.of_grown hgrow7).mono (fun b e => by simp [Value.ownBlock] at e; omega))
                have h7 : g7 = gt ∨ w6.heap.size ≤ g7 := by
                  rcases hor7 with e | e <;> (try simp [Value.ownBlock] at e) <;> omega
                have o7 : OwnI w7 w.heap.size (some ⟨g7, 0, none⟩) (q + (k + 1)) c7 (td ++ (nd.kids.take (k + 1)).map (·.2)) := by
                  rw [HST.out, ← List.append_assoc, HL.out]
                  unfold OwnI
                  rw [List.map_append]
                  exact hown7
                have O7 := Lib.hid o7
                have T7 := Lib.hid (TT.out.trans t7)
                have H7 := Lib.hid h7
                clear hown7 hgrow7 hor7 t7 o7 h7 qv hk1
                go_wp2
                go_roundw
                case rel => exact ⟨k + 1, g7, c7, by omega, by go_num, rfl, H7.out, O7.out, T7.out⟩
                case measure => simp [intOf]; omega
              · obtain rfl : k = nk := by omega
                have o8 := O6.out.touch TT.out (fun b hb e => by
                  have h1 : g3 = b := by simpa [Value.ownBlock] using hb
                  have h2 := (World.ownsRow.lt O6.out b hb).2
                  rcases e with e | e <;> omega)
                have b8 := B6.out.trans (TT.out.below (show w.heap.size ≤ w6.heap.size by omega) (fun b hb e => by rcases e with e | e <;> omega))
                have tk8 := TK.out
                rw [List.take_of_length_le (by omega)] at tk8
                have O8 := Lib.hid (OwnI.base o8 hs0)
                have B8 := Lib.hid b8
                have T8 := Lib.hid tk8
                have hg38 : g3 < w6.heap.size := (World.ownsRow.lt O6.out g3 (by simp [Value.ownBlock])).2
                clear o8 b8 tk8
                have hon := GT.out.len
                have hol := insI_len out m
                go_wp2
                go_roundw
                case rel => exact ⟨g3, no + 1, c3, gk, q + k, ck', insI out m, td ++ nd.kids.map (·.2), _, rfl, rfl, rfl, by rcases hgk with e | e <;> omega, by omega, O8.out, T8.out, GT.out, B8.out⟩
                case measure => simp [lenOf]; omega
          | true =>
            have GT := Lib.hid (GR.out.take RT.out HM0.out HIN.out HIT.out)
            have hgtl : w.heap.size ≤ gt := (World.ownsRow.lt T6.out gt (by simp [Value.ownBlock])).1
            have hx4 := X6.out.lt
            go_wp2
            go_loopw [8, 12] (fun t i wr => ∃ (k gk ck' : Nat), k ≤ nk ∧ i = .int .i64 k ∧ t = .slice (some ⟨gk, 0, none⟩) (q + k) ck' ∧ (gk = gt ∨ w6.heap.size ≤ gk) ∧ OwnI wr w.heap.size (some ⟨gk, 0, none⟩) (q + k) ck' (td ++ (nd.kids.take k).map (·.2)) ∧ Touch (fun b => b = gt ∨ w6.heap.size ≤ b) w6 wr) (fun _ i _ => nk - (intOf i).toNat)
            case atStart => exact ⟨0, gt, ct, Nat.zero_le _, rfl, rfl, .inl rfl, by simpa using T6.out, Touch.of_below (Below.refl _ _)⟩
            case round =>
              obtain ⟨k, gk, ck', hkn, rfl, rfl, hgk, htk, htt⟩ := hrel
              have TK := Lib.hid htk
              have TT := Lib.hid htt
              have hsv : w6.heap.size ≤ wr.heap.size := htt.size
              have xv : Box wr w4.heap.size 52 #[.int .i64 nd.kind, .slice Ap np cp, .slice Ak nk ck, .string nd.val] := (htt.block _ hx4 (fun e => by rcases e with e | e <;> omega)).trans X6.out
              have qv := xv.cell 2
              simp at qv
              have kv' := K6.out.touch htt (fun b hb e => by have h1 := (World.ownsRow.lt HKK.out b hb); rcases e with e | e <;> omega)
              have KV := Lib.hid kv'
              have XV := Lib.hid xv
              clear htk htt xv kv' q62
              by_cases hlk : k < nk
              · obtain ⟨gb, rfl, _, _⟩ := KV.out.form (by omega)
                have hk1 := KV.out.cell1 hlk
                have hst : (nd.kids.take (k + 1)).map (·.2) = (nd.kids.take k).map (·.2) ++ [(nd.kids[k]?.getD (0, 0)).2] := by
                  rw [List.take_succ_eq_append_getElem (by omega), List.map_append, List.getElem?_eq_getElem (by omega)]; rfl
                have HST := Lib.hid hst
                obtain ⟨L, hL⟩ : ∃ L, td ++ (nd.kids.take k).map (·.2) = L := ⟨_, rfl⟩
                have TK := TK.out
                rw [hL] at TK
                have TK := Lib.hid TK
                have HL := Lib.hid hL
                clear hst hL
                generalize (nd.kids[k]?.getD (0, 0)).2 = z at hk1 HST
                go_wp2_with (at_builtin; refine wpList_append_lies _ rfl _ _ 23 rfl w.heap.size 2 i0 (.int .i64 0) 1 8 Try.underlying23 HI.out HZ0.out HZ1.out HZ2.out rfl (by decide) _ _ _ rfl (own_touch (S := fun _ => False) TK.out (Touch.of_below ((Below.refl _ _).alloc (Nat.le_refl _) _)) (fun _ _ h => h)) ⟨wr.heap.size, 0, none⟩ 1 1 [.int .i64 z] rfl ?cq0 ?cq1 ?cq2 (by omega) ?cq3 ?cq4 ?cq5 _ rfl ?_)
                case cq2 => first | rfl | (intro u hu; simp at hu; subst hu; rfl)
                case cq3 => unfold maxLen; omega
                case cq4 => omega
                case cq5 => first | omega | (simp; omega)
                intro g7 c7 w7 hown7 hgrow7 hor7 _
                have t7 : Touch (fun b => b = gt ∨ w6.heap.size ≤ b) wr w7 := (Touch.of_below ((Below.refl wr.heap.size wr).alloc (Nat.le_refl _) _)).trans ((Touch.of_grown hgrow7).mono (fun b e => by simp [Value.ownBlock] at e; omega))
                have h7 : g7 = gt ∨ w6.heap.size ≤ g7 := by
                  rcases hor7 with e | e <;> (try simp [Value.ownBlock] at e) <;> omega
                have o7 : OwnI w7 w.heap.size (some ⟨g7, 0, none⟩) (q + (k + 1)) c7 (td ++ (nd.kids.take (k + 1)).map (·.2)) := by
                  rw [HST.out, ← List.append_assoc, HL.out]
                  unfold OwnI
                  rw [List.map_append]
                  exact hown7
                have O7 := Lib.hid o7
                have T7 := Lib.hid (TT.out.trans t7)
                have H7 := Lib.hid h7
                clear hown7 hgrow7 hor7 t7 o7 h7 qv hk1
                go_wp2
                go_roundw
                case rel => exact ⟨k + 1, g7, c7, by omega, by go_num, rfl, H7.out, O7.out, T7.out⟩
                case measure => simp [intOf]; omega
              · obtain rfl : k = nk := by omega
                have o8 := O6.out.touch TT.out (fun b hb e => by
                  have h1 : g3 = b := by simpa [Value.ownBlock] using hb
                  have h2 := (World.ownsRow.lt O6.out b hb).2
                  rcases e with e | e <;> omega)
                have b8 := B6.out.trans (TT.out.below (show w.heap.size ≤ w6.heap.size by omega) (fun b hb e => by rcases e with e | e <;> omega))
                have tk8 := TK.out
                rw [List.take_of_length_le (by omega)] at tk8
                have O8 := Lib.hid (OwnI.base o8 hs0)
                have B8 := Lib.hid b8
                have T8 := Lib.hid tk8
                have hg38 : g3 < w6.heap.size := (World.ownsRow.lt O6.out g3 (by simp [Value.ownBlock])).2
                clear o8 b8 tk8
                have hon := GT.out.len
                have hol := insI_len out m
                go_wp2
                go_roundw
                case rel => exact ⟨g3, no + 1, c3, gk, q + k, ck', insI out m, td ++ nd.kids.map (·.2), _, rfl, rfl, rfl, by rcases hgk with e | e <;> omega, by omega, O8.out, T8.out, GT.out, B8.out⟩
                case measure => simp [lenOf]; omega
end Go.Proofs.Ytopaobjpcafjlaa

-- ReachO: The model's ReachOf.
namespace Go.Proofs.Ytopaobjpcafjlaa
set_option maxRecDepth 20000
set_option linter.unusedVariables false
set_option linter.unusedSimpArgs false
open Go.RowKit

theorem specReachOf_any (A : Option Addr) (n c : Nat) (cs : List (Int × List Int)) (Ar : Option Addr) (nr cr : Nat) (roots : List Int) (B : Nat) (w : World) (hn : n ≤ 1048576) (hnr : nr ≤ 1048576) (hm : ∀ i, (cel cs i).2.length ≤ 1048576) (hA : Ar = none → cr = 0) (hB : B ≤ w.heap.size) (hb : Cells w B A n cs) (hbr : Ints w B Ar nr roots) :
    Calls Try.prog 5 #[.slice A n c, .slice Ar nr cr] w fun e w' => ∃ A' n' c' l b, e = .returned (.tuple #[.slice A' n' c', .bool b]) ∧ ReachIs cs roots l b ∧ OwnI w' w.heap.size A' n' c' l ∧ Below w.heap.size w w' := by
  have HB := Lib.hid (hb.more hB)
  have HBR := Lib.hid (hbr.more hB)
  have hlr := hbr.1
  clear hb hbr
  go_enter Try.func5, Try.ntmps5
  go_wp2_with fail
  refine (specCellsOk_any A n c cs w.heap.size w hn hm (by omega) HB.out).mono ?_
  rintro e w2 ⟨r, rfl, hr, b2⟩
  have HR := Lib.hid hr
  have B2 := Lib.hid b2
  have s2 : w.heap.size ≤ w2.heap.size := b2.size
  clear hr b2
  cases r with
  | false =>
    have hno : ¬ Right cs := fun h => absurd (HR.out.2 h) (by simp)
    have HNO := Lib.hid hno
    clear hno
    go_wp2
    go_ret2
    exact ⟨_, _, _, [], false, rfl, .inl ⟨fun h => HNO.out h.1, rfl, rfl⟩, OwnI.base (OwnI.empty w2 w2.heap.size (Nat.le_refl _)) s2, B2.out.trans (((Below.refl _ _).alloc (Nat.le_refl _) _).mono s2)⟩
  | true =>
    have hR : Right cs := HR.out.1 (by trivial)
    have RT := Lib.hid hR
    clear hR HR
    by_cases h80 : nr ≤ 80
    · have hd : decide ((80 : Int) < (nr : Int)) = false := decide_eq_false (by omega)
      go_wp2_with fail
      refine (l4Reach_any A n c cs Ar nr cr roots w.heap.size w2 hm RT.out (by omega) hA s2 (HB.out.below B2.out) (HBR.out.below B2.out)).mono ?_
      rintro e w3 ⟨g, n', c', l, b, rfl, hgo, ho, b3⟩
      have GO := Lib.hid hgo
      have HO := Lib.hid ho
      have B3 := Lib.hid b3
      clear hgo ho b3
      go_wp2
      go_ret2
      exact ⟨_, _, _, l, b, rfl, .inr ⟨⟨RT.out, by omega⟩, GO.out.rise, GO.out.done, GO.out.whole⟩, OwnI.base HO.out s2, B2.out.trans (B3.out.mono s2)⟩
    · have hd : decide ((80 : Int) < (nr : Int)) = true := decide_eq_true (by omega)
      go_wp2
      go_ret2
      exact ⟨_, _, _, [], false, rfl, .inl ⟨fun h => absurd h.2 (by omega), rfl, rfl⟩, OwnI.base (OwnI.empty w2 w2.heap.size (Nat.le_refl _)) s2, B2.out.trans (((Below.refl _ _).alloc (Nat.le_refl _) _).mono s2)⟩
end Go.Proofs.Ytopaobjpcafjlaa

-- RowL: Plain laws of rows of cells: what copying into one makes; rows put together. No statement of the program is proved here.
namespace Go.Proofs.Ytopaobjpcafjlaa
set_option maxRecDepth 20000
set_option linter.unusedVariables false
set_option linter.unusedSimpArgs false
open Go.RowKit

/-- copy into a row, at elements of any size. -/
theorem run_copy_wide {P : Program} (w : World) (dT sT ty elem : TypeId) (size g o dLen dCap m : Nat) (a : Addr) (sLen sCap : Nat) (cur : Array Value) (t : TypeId) (cs : List Value)
    (hu : P.underlying dT = some (.slice elem)) (hs : (P.info? elem).map (·.size) = some size)
    (hg : w.heap[g]? = some (.cells cur t (0, 0))) (hm : m = Nat.min sLen dLen) (hn : cs.length = m * size)
    (hsrc : ∀ j v, cs[j]? = some v → w.cell? (a.add j) = some v) (hfit : o + cs.length ≤ cur.size) (h1 : ∀ v ∈ cs, v.oneCell' = true) :
    (Builtin.copy_ #[dT, sT] ty #[.slice (some ⟨g, o, none⟩) dLen dCap, .slice (some a) sLen sCap]).run P w =
      .ok (goInt m) (w.setRow g (cur.toList.take o ++ cs ++ cur.toList.drop (o + cs.length)).toArray) := by
  have hl := run_loadCells_list (P := P) w a cs hsrc
  have hst := run_storeCells_at P g o t cs 0 cur w hg (by simpa using hfit) h1
  cases hq : P.info? elem with
  | none => simp [hq] at hs
  | some i =>
    have hi : i.size = size := by simpa [hq] using hs
    simp [Builtin.copy_, run_underlying hu, Builtin.lenOf, Builtin.firstCells, sizeOf, typeInfo, hq, hi, ← hm, ← hn, hl, hst]

/-- a row with others put in at a place. -/
def putAt (xs us : List Value) (k : Nat) : List Value := xs.take k ++ us ++ xs.drop k
theorem putAt_len (xs us : List Value) (k : Nat) : (putAt xs us k).length = xs.length + us.length := by
  unfold putAt
  simp
  omega
theorem setRow_drew (w : World) (g : Nat) (cs : Array Value) : (w.setRow g cs).drew = w.drew.setRow g cs := rfl
theorem heap_setRow_other (w : World) (g k : Nat) (cs : Array Value) (h : k ≠ g) : (w.setRow g cs).heap[k]? = w.heap[k]? := setRow_other w g k cs h
theorem setRow_twice (w : World) (g : Nat) (a b : Array Value) : (w.setRow g a).setRow g b = w.setRow g b := setRow_setRow w g a b
/-- what two copies make of a row: first the tail moves up, then the new ones come in. -/
theorem shift_row (cur us xs : List Value) (k m : Nat) (hx : cur.take xs.length = xs) (hk : k ≤ xs.length) (hu : us.length = m) (hc : xs.length + m ≤ cur.length) :
    let c1 := cur.take (k + m) ++ xs.drop k ++ cur.drop (k + m + (xs.drop k).length)
    (c1.take k ++ us ++ c1.drop (k + us.length)).take (xs.length + m) = putAt xs us k ∧ (c1.take k ++ us ++ c1.drop (k + us.length)).length = cur.length := by
  intro c1
  have hl1 : c1.length = cur.length := by simp [c1]; omega
  have hxl : xs.length ≤ cur.length := by omega
  have hat : ∀ j, j < xs.length → cur[j]? = xs[j]? := fun j hj => by have := congrArg (·[j]?) hx; simp only [List.getElem?_take, if_pos hj] at this; exact this
  refine ⟨?_, by simp [hl1]; omega⟩
  apply List.ext_getElem?
  intro j
  unfold putAt
  by_cases hj : j < xs.length + m
  · rw [List.getElem?_take, if_pos hj]
    have hkc : min k cur.length = k := by omega
    by_cases h1 : j < k
    · have e1 : (c1.take k ++ us ++ c1.drop (k + us.length))[j]? = xs[j]? := by
        rw [List.append_assoc, List.getElem?_append_left (by simp [hl1]; omega), List.getElem?_take, if_pos h1]
        simp only [c1]
        rw [List.append_assoc, List.getElem?_append_left (by simp; omega), List.getElem?_take, if_pos (by omega)]
        exact hat j (by omega)
      rw [e1, List.append_assoc, List.getElem?_append_left (by simp; omega), List.getElem?_take, if_pos h1]
    · by_cases h2 : j < k + m
      · have e1 : (c1.take k ++ us ++ c1.drop (k + us.length))[j]? = us[j - k]? := by
          rw [List.append_assoc, List.getElem?_append_right (by simp [hl1]; omega), List.getElem?_append_left (by simp [hl1]; omega)]
          congr 1
          simp [hl1]; omega
        rw [e1, List.append_assoc, List.getElem?_append_right (by simp; omega), List.getElem?_append_left (by simp; omega)]
        congr 1
        simp; omega
      · have e1 : (c1.take k ++ us ++ c1.drop (k + us.length))[j]? = c1[j]? := by
          rw [List.append_assoc, List.getElem?_append_right (by simp [hl1]; omega), List.getElem?_append_right (by simp [hl1]; omega), List.getElem?_drop]
          congr 1
          simp [hl1]; omega
        rw [e1]
        simp only [c1]
        rw [List.append_assoc, List.getElem?_append_right (by simp; omega), List.getElem?_append_left (by simp; omega), List.getElem?_drop]
        rw [List.append_assoc (xs.take k), List.getElem?_append_right (by simp; omega), List.getElem?_append_right (by simp; omega), List.getElem?_drop]
        congr 1
        simp; omega
  · rw [List.getElem?_take, if_neg hj, List.getElem?_eq_none (by simp; omega)]
/-- a row that two copies fill. -/
theorem grow_row (xs us zs : List Value) (k m : Nat) (hk : k ≤ xs.length) (hu : us.length = m) (hz : xs.length - k + m ≤ zs.length) :
    let c0 := xs.take k ++ zs
    let c1 := c0.take k ++ us ++ c0.drop (k + us.length)
    (c1.take (k + m) ++ xs.drop k ++ c1.drop (k + m + (xs.drop k).length)).take (xs.length + m) = putAt xs us k ∧ (c1.take (k + m) ++ xs.drop k ++ c1.drop (k + m + (xs.drop k).length)).length = c0.length := by
  intro c0 c1
  have l0 : c0.length = k + zs.length := by simp [c0]; omega
  have l1 : c1.length = c0.length := by simp [c1, l0]; omega
  refine ⟨?_, by simp [l1, l0]; omega⟩
  apply List.ext_getElem?
  intro j
  unfold putAt
  by_cases hj : j < xs.length + m
  · rw [List.getElem?_take, if_pos hj]
    by_cases h1 : j < k + m
    · rw [List.append_assoc, List.getElem?_append_left (by simp [l1, l0]; omega), List.getElem?_take, if_pos h1, List.getElem?_append_left (by simp; omega)]
      have e0 : c0.take k = xs.take k := by
        simp only [c0]
        rw [List.take_append_of_le_length (by simp; omega), List.take_take, Nat.min_self]
      rw [e0]
      conv => rhs; rw [List.getElem?_append_left (by simp; omega)]
    · rw [List.append_assoc, List.getElem?_append_right (by simp [l1, l0]; omega), List.getElem?_append_left (by simp [l1, l0]; omega), List.getElem?_append_right (by simp; omega)]
      congr 1
      simp [l1, l0]; omega
  · rw [List.getElem?_take, if_neg hj, List.getElem?_eq_none (by simp; omega)]
theorem own_parts {w : World} {base size n cap g : Nat} {e : TypeId} {xs : List Value} (h : w.ownsRow base e size (.slice (some ⟨g, 0, none⟩) n cap) n xs) :
    ∃ cur, base ≤ g ∧ w.heap[g]? = some (.cells cur e (0, 0)) ∧ n ≤ cap ∧ cap ≤ maxLen ∧ cur.size = cap * size ∧ cur.toList.take (n * size) = xs := by
  rcases h.2 with ⟨h, _⟩ | ⟨g', cap', cur, hv, h1, h2, h3, h4, h5, h6⟩
  · cases h
  · cases hv
    exact ⟨cur, h1, h2, h3, h4, h5, h6⟩
theorem own_mk {w : World} {base size n cap g : Nat} {e : TypeId} {xs : List Value} (cur : Array Value) (hl : xs.length = n * size) (h1 : base ≤ g) (h2 : w.heap[g]? = some (.cells cur e (0, 0))) (h3 : n ≤ cap) (h4 : cap ≤ maxLen) (h5 : cur.size = cap * size) (h6 : cur.toList.take (n * size) = xs) :
    w.ownsRow base e size (.slice (some ⟨g, 0, none⟩) n cap) n xs := ⟨hl, .inr ⟨g, cap, cur, rfl, h1, h2, h3, h4, h5, h6⟩⟩
theorem own_cap {w : World} {base size n c : Nat} {A : Option Addr} {e : TypeId} {xs : List Value} (h : w.ownsRow base e size (.slice A n c) n xs) : n ≤ c ∧ c ≤ maxLen ∧ (A = none → c = 0) := by
  rcases h.2 with ⟨h, rfl⟩ | ⟨g', cap', cur, hv, h1, h2, h3, h4, h5, h6⟩
  · cases h; exact ⟨Nat.le_refl _, by unfold maxLen; omega, fun _ => rfl⟩
  · cases hv; exact ⟨h3, h4, fun h => by cases h⟩
theorem own_none {w : World} {base size n c : Nat} {A : Option Addr} {e : TypeId} {xs : List Value} (h : w.ownsRow base e size (.slice A n c) n xs) : (A = none ∧ n = 0 ∧ c = 0) ∨ ∃ g, A = some ⟨g, 0, none⟩ := by
  rcases h.2 with ⟨h, rfl⟩ | ⟨g', cap', cur, hv, _⟩
  · cases h; exact .inl ⟨rfl, rfl, rfl⟩
  · cases hv; exact .inr ⟨g', rfl⟩
theorem grown_setRow (w : World) (g : Nat) (cs : Array Value) : w.grownBy (w.setRow g cs) (some g) :=
  ⟨rfl, rfl, rfl, by simp, fun k _ hk => setRow_other w g k _ (fun e => hk (by rw [e]))⟩
end Go.Proofs.Ytopaobjpcafjlaa

-- Srch: slices.BinarySearch at int64, as the program calls it; where a number belongs in a list that rises. No statement of the program is proved here.
namespace Go.Proofs.Ytopaobjpcafjlaa
set_option maxRecDepth 100000
set_option linter.unusedVariables false
set_option linter.unusedSimpArgs false
open Go.RowKit

/-- how many of a list that rises are below a number: where it stands, or would. -/
def lowI (l : List Int) (m : Int) : Nat := l.findIdx fun x => decide (m ≤ x)
theorem lowI_le (l : List Int) (m : Int) : lowI l m ≤ l.length := List.findIdx_le_length
theorem lowI_below (l : List Int) (m : Int) (j : Nat) (h : j < lowI l m) : l[j]?.getD 0 < m := by
  have hl := lowI_le l m
  have h2 := List.not_of_lt_findIdx (show j < l.findIdx fun x => decide (m ≤ x) from h)
  rw [List.getElem?_eq_getElem (by omega)]
  simpa using h2
theorem lowI_above (l : List Int) (m : Int) (h : lowI l m < l.length) : m ≤ l[lowI l m]?.getD 0 := by
  have h2 := List.findIdx_getElem (w := show l.findIdx (fun x => decide (m ≤ x)) < l.length from h)
  have h2 : m ≤ l[lowI l m] := of_decide_eq_true h2
  rw [List.getElem?_eq_getElem h]
  exact h2
theorem lowI_at (l : List Int) (m : Int) (k : Nat) (hk : k ≤ l.length) (h0 : ∀ j, j < k → l[j]?.getD 0 < m) (h1 : k < l.length → m ≤ l[k]?.getD 0) : lowI l m = k := by
  have hle := lowI_le l m
  rcases Nat.lt_trichotomy (lowI l m) k with h | h | h
  · have h2 := lowI_above l m (by omega)
    have h3 := h0 _ h
    omega
  · exact h
  · have h2 := lowI_below l m k h
    have := h1 (by omega)
    omega
theorem riseI_le (l : List Int) (h : RiseI l) (i j : Nat) (hij : i ≤ j) (hj : j < l.length) : l[i]?.getD 0 ≤ l[j]?.getD 0 := by
  rcases Nat.lt_or_ge i j with h1 | h1
  · have := riseI_at l h i j h1 hj; omega
  · obtain rfl : i = j := by omega
    omega
/-- the number is there. -/
def hitI (l : List Int) (m : Int) : Bool := decide (lowI l m < l.length ∧ l[lowI l m]?.getD 0 = m)
theorem hitI_mem (l : List Int) (m : Int) (h : RiseI l) : hitI l m = true ↔ m ∈ l := by
  unfold hitI
  rw [decide_eq_true_iff]
  constructor
  · rintro ⟨h1, h2⟩
    rw [List.getElem?_eq_getElem h1] at h2
    have h2 : l[lowI l m] = m := h2
    rw [← h2]
    exact List.getElem_mem h1
  · intro hm
    obtain ⟨i, hi, e⟩ := List.mem_iff_getElem.1 hm
    have hk : lowI l m = i := lowI_at l m i (by omega) (fun j hj => by
      have := riseI_at l h j i hj hi
      rw [List.getElem?_eq_getElem hi] at this
      have e' : (some l[i]).getD 0 = m := e
      omega) (fun _ => by rw [List.getElem?_eq_getElem hi]; exact Int.le_of_eq e.symm)
    rw [hk]
    exact ⟨hi, by rw [List.getElem?_eq_getElem hi]; exact e⟩
theorem lowI_place (l : List Int) (m : Int) (h : m ∉ l) : lowI l m = placeI l m := by
  refine (placeI_at l m (lowI l m) (lowI_le l m) (fun j hj => by have := lowI_below l m j hj; omega) (fun hk => ?_)).symm
  have h1 := lowI_above l m hk
  rw [List.getElem?_eq_getElem hk] at h1 ⊢
  rcases Int.lt_or_eq_of_le h1 with h2 | h2
  · exact h2
  · have h2 : m = l[lowI l m] := h2
    exact absurd (h2 ▸ List.getElem_mem hk) h

theorem isNaNc_any (x : Int) (w : World) : Calls Try.prog 72 #[.int .i64 x] w fun e w' => e = .returned (.bool false) ∧ w' = w := by
  have mixed : Try.prog.follows .mixedOrders = true := by kernel_rfl
  go_enter Try.func72, Try.ntmps72
  go_wp2
  go_ret
  exact ⟨by simp, rfl⟩
theorem isNaNs_any (x : Int) (w : World) : Calls Try.prog 59 #[.int .i64 x] w fun e w' => e = .returned (.bool false) ∧ w' = w := by
  have mixed : Try.prog.follows .mixedOrders = true := by kernel_rfl
  go_enter Try.func59, Try.ntmps59
  go_wp2
  go_ret
  exact ⟨by simp, rfl⟩
theorem lessI_any (x y : Int) (w : World) : Calls Try.prog 58 #[.int .i64 x, .int .i64 y] w fun e w' => e = .returned (.bool (decide (x < y))) ∧ w' = w := by
  have mixed : Try.prog.follows .mixedOrders = true := by kernel_rfl
  go_enter Try.func58, Try.ntmps58
  go_wp2_with (go_at_call 72; refine (isNaNc_any _ _).mono ?_; rintro e w' ⟨rfl, rfl⟩)
  go_ret
  exact ⟨rfl, rfl⟩
set_option maxHeartbeats 4000000 in
theorem search_any (A : Option Addr) (n c : Nat) (l : List Int) (m : Int) (B : Nat) (w : World) (hn : n ≤ 1048576) (hb : Ints w B A n l) (hr : RiseI l) :
    Calls Try.prog 43 #[.slice A n c, .int .i64 m] w fun e w' => e = .returned (.tuple #[.int .i64 (lowI l m : Nat), .bool (hitI l m)]) ∧ ∃ q, w' = w.drewN q := by
  have mixed : Try.prog.follows .mixedOrders = true := by kernel_rfl
  have hlen := hb.1
  have HB := Lib.hid hb
  have HR := Lib.hid hr
  clear hb hr
  go_enter Try.func43, Try.ntmps43
  go_wp2
  go_loopw [7, 8] (fun s7 s8 wr => ∃ lo hi q : Nat, s7 = .int .i64 lo ∧ s8 = .int .i64 hi ∧ lo ≤ hi ∧ hi ≤ n ∧ wr = w.drewN q ∧ (∀ t, t < lo → l[t]?.getD 0 < m) ∧ (∀ t, hi ≤ t → t < n → m ≤ l[t]?.getD 0)) (fun s7 s8 _ => (intOf s8).toNat - (intOf s7).toNat)
  case atStart => exact ⟨0, n, 0, rfl, rfl, Nat.zero_le _, Nat.le_refl _, rfl, fun t ht => absurd ht (Nat.not_lt_zero _), fun t h1 h2 => by omega⟩
  case round =>
    obtain ⟨lo, hi, q, rfl, rfl, hlh, hin, hwq, h1, h2⟩ := hrel
    have H1 := Lib.hid h1
    have H2 := Lib.hid h2
    have HQ := Lib.hid hwq
    clear h1 h2
    by_cases hlt : lo < hi
    · obtain ⟨b, off, rfl, hbB, hcell⟩ := HB.out.2 (by omega)
      have cm : wr.cell? ⟨b, off + (lo + hi) / 2, none⟩ = some (.int .i64 (l[(lo + hi) / 2]?.getD 0)) := by rw [hwq]; exact hcell _ (by omega)
      clear hcell hwq
      obtain ⟨y, hy⟩ : ∃ y, l[(lo + hi) / 2]?.getD 0 = y := ⟨_, rfl⟩
      rw [hy] at cm
      have Y := Lib.hid hy
      clear hy
      by_cases hyx : y < m
      · go_wp2_with (go_at_call 58; refine (lessI_any _ _ _).mono ?_; rintro e w' ⟨rfl, rfl⟩)
        go_roundw
        case measure => simp [intOf]; omega
        case rel =>
          refine ⟨(lo + hi) / 2 + 1, hi, q, by go_num, rfl, by omega, hin, HQ.out, fun t ht => ?_, H2.out⟩
          have := riseI_le l HR.out t ((lo + hi) / 2) (by omega) (by omega)
          rw [Y.out] at this
          omega
      · go_wp2_with (go_at_call 58; refine (lessI_any _ _ _).mono ?_; rintro e w' ⟨rfl, rfl⟩)
        go_roundw
        case measure => simp [intOf]; omega
        case rel =>
          refine ⟨lo, (lo + hi) / 2, q, rfl, by go_num, by omega, by omega, HQ.out, H1.out, fun t h3 h4 => ?_⟩
          have := riseI_le l HR.out ((lo + hi) / 2) t h3 (by omega)
          rw [Y.out] at this
          omega
    · obtain rfl : lo = hi := by omega
      have hlow : lowI l m = lo := lowI_at l m lo (by omega) H1.out (fun h => H2.out lo (Nat.le_refl _) (by omega))
      have HL := Lib.hid hlow
      have hfin : hitI l m = decide (lo < n ∧ l[lo]?.getD 0 = m) := by unfold hitI; rw [hlow, hlen]
      have HF := Lib.hid hfin
      clear hlow hfin
      by_cases hn2 : lo < n
      · obtain ⟨b, off, rfl, hbB, hcell⟩ := HB.out.2 (by omega)
        have cm : wr.cell? ⟨b, off + lo, none⟩ = some (.int .i64 (l[lo]?.getD 0)) := by rw [hwq]; exact hcell _ (by omega)
        clear hcell hwq
        obtain ⟨y, hy⟩ : ∃ y, l[lo]?.getD 0 = y := ⟨_, rfl⟩
        rw [hy] at cm
        have Y := Lib.hid hy
        clear hy
        by_cases hyx : y = m
        · go_wp2_with (first | (go_at_call 58; refine (lessI_any _ _ _).mono ?_; rintro e w' ⟨rfl, rfl⟩) | (go_at_call 59; refine (isNaNs_any _ _).mono ?_; rintro e w' ⟨rfl, rfl⟩))
          go_ret2
          refine ⟨?_, q, HQ.out⟩
          rw [HL.out, HF.out, Y.out, decide_eq_true (show lo < n ∧ y = m from ⟨hn2, hyx⟩)]
          first | rfl | simp [*]
        · go_wp2_with (first | (go_at_call 58; refine (lessI_any _ _ _).mono ?_; rintro e w' ⟨rfl, rfl⟩) | (go_at_call 59; refine (isNaNs_any _ _).mono ?_; rintro e w' ⟨rfl, rfl⟩))
          go_ret2
          refine ⟨?_, q, HQ.out⟩
          rw [HL.out, HF.out, Y.out, decide_eq_false (show ¬ (lo < n ∧ y = m) from fun h => hyx h.2)]
          first | rfl | simp [*]
      · clear hwq
        go_wp2_with (first | (go_at_call 58; refine (lessI_any _ _ _).mono ?_; rintro e w' ⟨rfl, rfl⟩) | (go_at_call 59; refine (isNaNs_any _ _).mono ?_; rintro e w' ⟨rfl, rfl⟩))
        go_ret2
        refine ⟨?_, q, HQ.out⟩
        rw [HL.out, HF.out, decide_eq_false (show ¬ (lo < n ∧ l[lo]?.getD 0 = m) from fun h => hn2 h.1)]
        first | rfl | simp [*]
end Go.Proofs.Ytopaobjpcafjlaa

-- InsI: slices.Insert of one element, as the program calls it, at one type of element. No statement of the program is proved here.
namespace Go.Proofs.Ytopaobjpcafjlaa
set_option maxRecDepth 100000
set_option linter.unusedVariables false
set_option linter.unusedSimpArgs false
open Go.RowKit

theorem Try.infoInsI : (Try.prog.info? 2).map (fun i => (i.zero, i.size, i.bytes)) = some (some (.int .i64 0), 1, 8) := by kernel_rfl
theorem Try.sizeInsI : ∀ w, (Go.sizeOf 2).run Try.prog w = .ok 1 w := by
  intro w
  obtain ⟨i0, hi0, hz0, hz1, hz2⟩ := info_parts Try.infoInsI
  simp [sizeOf, typeInfo, hi0, hz1]
theorem Try.siInsI : (Try.prog.info? 2).map (·.size) = some 1 := by
  obtain ⟨i0, hi0, hz0, hz1, hz2⟩ := info_parts Try.infoInsI
  rw [hi0]; simp [hz1]
/-- what insertion of one element leaves. -/
def InsAtI (base n i : Nat) (v : Value) (xs us : List Value) (w : World) (e : Ending) (w' : World) : Prop :=
  ∃ g' c', e = .returned (.slice (some ⟨g', 0, none⟩) (n + 1) c') ∧ w'.ownsRow base 2 1 (.slice (some ⟨g', 0, none⟩) (n + 1) c') (n + 1) (putAt xs us (i * 1)) ∧ w.grownBy w' v.ownBlock ∧ (v.ownBlock = some g' ∨ w.heap.size ≤ g')
set_option maxHeartbeats 4000000 in
/-- there is no room, and the place is not the last. -/
theorem insI_grow (base n c i vb vc g : Nat) (xs us : List Value) (w : World) (hr : w.ownsRow base 2 1 (.slice (some ⟨g, 0, none⟩) n c) n xs) (hbase : base ≤ w.heap.size) (hi : i < n) (hn : n ≤ 1048576) (hc : c < n + 1)
    (hv : w.heap[vb]? = some (.cells us.toArray 2 (0, 0))) (hu : us.length = 1) (h1u : ∀ u ∈ us, u.oneCell' = true) (h1x : ∀ u ∈ xs, u.oneCell' = true) :
    Calls Try.prog 44 #[.slice (some ⟨g, 0, none⟩) n c, .int .i64 i, .slice (some ⟨vb, 0, none⟩) 1 vc] w fun e w' => InsAtI base n i (.slice (some ⟨g, 0, none⟩) n c) xs us w e w' := by
  obtain ⟨i0, hi0, hz0, hz1, hz2⟩ := info_parts Try.infoInsI
  obtain ⟨cur, hbg, hg, hnc, hcm, hcs, htk⟩ := own_parts hr
  have hxl := hr.1
  have hgw : g < w.heap.size := (Array.getElem?_eq_some_iff.1 hg).1
  have hvw : vb < w.heap.size := (Array.getElem?_eq_some_iff.1 hv).1
  obtain rfl : c = n := by omega
  have hold : (Builtin.firstCells i0.size i (.slice (some ⟨g, 0, none⟩) i c)).run Try.prog w.drew = .ok (xs.take (i * 1)).toArray w.drew := by
    rw [hz1]
    exact run_firstCells_some w.drew 1 i ⟨g, 0, none⟩ i c (xs.take (i * 1)) (by rw [List.length_take]; omega) (fun j v hj => by
      rw [Addr.add_lit, Nat.zero_add]
      rw [List.getElem?_take] at hj
      split at hj
      · exact (World.ownsRow.cellAt hr j (by omega)).trans hj
      · cases hj)
  obtain ⟨G, hG⟩ : ∃ G, G = grownCap w (c + 1) c 2 := ⟨_, rfl⟩
  have hGn : c + 1 ≤ G := by rw [hG]; exact grownCap_ge w _ _ _
  have hGm : G ≤ maxLen := by rw [hG]; exact grownCap_le_maxLen w (c + 1) c _ (by unfold maxLen; omega)
  obtain ⟨ZS, hZS⟩ : ∃ ZS : List Value, ZS = (Builtin.zeroCells (.int .i64 0 : Value).cells (c + 1 - i)).toList ++ (Builtin.zeroCells (.int .i64 0 : Value).cells (G - (c + 1))).toList := ⟨_, rfl⟩
  have hZl : ZS.length = (G - i) * 1 := by
    rw [hZS]
    simp [Builtin.zeroCells, Value.cells]
    omega
  obtain ⟨W1, hW1⟩ : ∃ W1, W1 = w.drew.alloc (.cells (xs.take (i * 1) ++ ZS).toArray 2) := ⟨_, rfl⟩
  have hrz : ∀ ty, (Builtin.append_ #[23, 3] ty #[.slice (some ⟨g, 0, none⟩) i c, .int .i64 ((c : Int) + 1 - (i : Int))]).run Try.prog w = .ok (.slice (some ⟨w.heap.size, 0, none⟩) (c + 1) G) W1 := fun ty => by
    have h := Lib.run_append_grow_zeros w 23 3 ty 2 i0 _ .i64 .i64 Try.underlying23 Try.underlying3 hi0 hz0 (some ⟨g, 0, none⟩) i c (xs.take (i * 1)) hold (c + 1 - i) (by omega) (by omega) (by omega) (by omega) (by rw [hz2]; omega)
      (by rw [hz2, show i + (c + 1 - i) = c + 1 by omega]; exact growslice_fits (by omega) (by omega))
    rw [show i + (c + 1 - i) = c + 1 by omega, ← hG, show (((c + 1 - i : Nat) : Nat) : Int) = (c : Int) + 1 - (i : Int) by omega] at h
    rw [h, hW1, hZS]
    congr 3
    apply Array.ext'
    simp
  have hg1 : W1.heap[w.heap.size]? = some (.cells (xs.take (i * 1) ++ ZS).toArray 2 (0, 0)) := by rw [hW1]; exact heap_alloc_new w.drew _
  have ho1 : ∀ k, k < w.heap.size → W1.heap[k]? = w.heap[k]? := fun k hk => by rw [hW1]; exact heap_alloc_old w.drew _ hk
  have hs1 : w.grownBy W1 (some w.heap.size) := ⟨by rw [hW1]; rfl, by rw [hW1]; rfl, by rw [hW1]; rfl, by rw [hW1]; simp, fun k hk _ => ho1 k hk⟩
  have lc0 : (xs.take (i * 1) ++ ZS).length = G * 1 := by simp [hZl]; omega
  obtain ⟨c1, hc1⟩ : ∃ c1 : List Value, c1 = (xs.take (i * 1) ++ ZS).take (i * 1) ++ us ++ (xs.take (i * 1) ++ ZS).drop (i * 1 + us.length) := ⟨_, rfl⟩
  have lc1 : c1.length = G * 1 := by rw [hc1]; simp [hZl]; omega
  obtain ⟨W2, hW2⟩ : ∃ W2, W2 = W1.setRow w.heap.size c1.toArray := ⟨_, rfl⟩
  have hcpA : ∀ ty dc, (Builtin.copy_ #[23, 23] ty #[.slice (some ⟨w.heap.size, i, none⟩) (c + 1 - i) dc, .slice (some ⟨vb, 0, none⟩) 1 vc]).run Try.prog W1 = .ok (goInt 1) W2 := fun ty dc => by
    have h := run_copy_wide (P := Try.prog) W1 23 23 ty 2 1 w.heap.size (i * 1) (c + 1 - i) dc 1 ⟨vb, 0, none⟩ 1 vc _ _ us Try.underlying23 Try.siInsI hg1 (by simp only [Nat.min_def]; split <;> omega) (by omega)
      (fun j v hj => by rw [Addr.add_lit, Nat.zero_add, cell_of_row W1 vb j us.toArray _ (0, 0) ((ho1 vb hvw).trans hv)]; simpa using hj) (by simp [hZl]; omega) h1u
    rw [hW2, hc1]
    simpa using h
  have hg2 : W2.heap[w.heap.size]? = some (.cells c1.toArray 2 (0, 0)) := by rw [hW2]; exact setRow_heap W1 _ _ _ _ _ hg1
  have ho2 : ∀ k, k < w.heap.size → W2.heap[k]? = w.heap[k]? := fun k hk => by rw [hW2, setRow_other W1 _ k _ (by omega)]; exact ho1 k hk
  obtain ⟨c2, hc2⟩ : ∃ c2 : List Value, c2 = c1.take (i * 1 + 1) ++ xs.drop (i * 1) ++ c1.drop (i * 1 + 1 + (xs.drop (i * 1)).length) := ⟨_, rfl⟩
  obtain ⟨W3, hW3⟩ : ∃ W3, W3 = W2.drew.setRow w.heap.size c2.toArray := ⟨_, rfl⟩
  have hcpB : ∀ ty dl dc sc, dl = c - i → (Builtin.copy_ #[23, 23] ty #[.slice (some ⟨w.heap.size, (i + 1), none⟩) dl dc, .slice (some ⟨g, i, none⟩) (c - i) sc]).run Try.prog W2.drew = .ok (goInt (c - i : Nat)) W3 := fun ty dl dc sc hdl => by
    subst hdl
    have h := run_copy_wide (P := Try.prog) W2.drew 23 23 ty 2 1 w.heap.size (i * 1 + 1) (c - i) dc (c - i) ⟨g, i * 1, none⟩ (c - i) sc _ _ (xs.drop (i * 1)) Try.underlying23 Try.siInsI hg2 (by simp only [Nat.min_def]; split <;> omega) (by simp; omega)
      (fun j v hj => by
        rw [Addr.add_lit]
        rw [List.getElem?_drop] at hj
        have hj' := (List.getElem?_eq_some_iff.1 hj).1
        rw [show W2.drew.cell? ⟨g, i * 1 + j, none⟩ = W2.cell? ⟨g, i * 1 + j, none⟩ from rfl, cell_of_row W2 g _ cur _ (0, 0) ((ho2 g hgw).trans hg)]
        rw [← cell_of_row w g _ cur _ (0, 0) hg]
        exact (World.ownsRow.cellAt hr _ (by omega)).trans hj) (by simp [lc1]; omega) (fun v hv => h1x v (List.mem_of_mem_drop hv))
    rw [hW3, hc2]
    simpa [Nat.add_mul] using h
  have hgr := grow_row xs us ZS (i * 1) 1 (by omega) hu (by rw [hZl]; omega)
  simp only [← hc1] at hgr
  rw [← hc2, lc0] at hgr
  have hfin : InsAtI base c i (.slice (some ⟨g, 0, none⟩) c c) xs us w (.returned (.slice (some ⟨w.heap.size, 0, none⟩) (c + 1) G)) W3 := by
    refine ⟨w.heap.size, G, rfl, own_mk c2.toArray (by rw [putAt_len]; omega) hbase (by rw [hW3]; exact setRow_heap W2.drew _ _ _ _ _ hg2) hGn hGm (by simpa using hgr.2) (by rw [show (c + 1) * 1 = xs.length + 1 by omega]; exact hgr.1), ?_, .inr (Nat.le_refl _)⟩
    refine ⟨by rw [hW3, hW2]; exact hs1.os, by rw [hW3, hW2]; exact hs1.tape, by rw [hW3, hW2]; exact hs1.output, by rw [hW3, hW2]; simpa using hs1.size, fun k hk _ => ?_⟩
    rw [hW3, setRow_other W2.drew _ k _ (by omega)]; exact ho2 k hk
  have HF := Lib.hid hfin
  have HA := Lib.hid hrz
  have HB := Lib.hid hcpA
  have HC := Lib.hid hcpB
  clear hfin hrz hcpA hcpB hgr hg1 ho1 hs1 hg2 ho2 hold hG hW1 hW2 hW3 hZS hc1 hc2 lc0 lc1 hZl htk hcs hr hz0
  unfold maxLen at hGm
  have mixed : Try.prog.follows .mixedOrders = true := by kernel_rfl
  have hz2' : ¬ ((i : Int) = (c : Int)) := by omega
  have hz3 : (c : Int) < (c : Int) + 1 := by omega
  have hw1 : IntKind.i64.wrap ((i : Int) + 1) = (i : Int) + 1 := by rw [IntKind.wrap_i64]; omega
  have htn : ((i : Int) + 1).toNat = i + 1 := by omega
  have hGi : ¬ (G = i) := by omega
  have hGim : ¬ (G = i + 1) := by omega
  have hci : ¬ (c = i) := by omega
  have hb1 : (0 : Int) ≤ (i : Int) + 1 := by omega
  have hin : i ≤ c := by omega
  have hb3 : (i : Int) ≤ (c : Int) := by omega
  go_enter Try.func44, Try.ntmps44
  go_wp2_with (first
    | (at_builtin; refine Lib.wpList_append_run _ rfl _ _ _ _ rfl _ _ rfl rfl _ _ (HA.out _) ?_)
    | (simp only [HB.out]))
  go_region_law_o (refine step_copy_runI rfl _ _ 23 23 rfl _ _ (by simp [Act.eval, Act.put]) (by simp [Act.eval, Act.put]) (HC.out _ (c - i) (G - (i + 1)) (c - i) rfl) ?_)
  go_wp2
  go_ret
  exact HF.out
set_option maxHeartbeats 4000000 in
/-- there is room, and the place is not the last. -/
theorem insI_room (base n c i vb vc g : Nat) (xs us : List Value) (w : World) (hr : w.ownsRow base 2 1 (.slice (some ⟨g, 0, none⟩) n c) n xs) (hbase : base ≤ w.heap.size) (hi : i < n) (hn : n ≤ 1048576) (hc : n + 1 ≤ c)
    (hv : w.heap[vb]? = some (.cells us.toArray 2 (0, 0))) (hu : us.length = 1) (h1u : ∀ u ∈ us, u.oneCell' = true) (h1x : ∀ u ∈ xs, u.oneCell' = true) (hne : g ≠ vb) :
    Calls Try.prog 44 #[.slice (some ⟨g, 0, none⟩) n c, .int .i64 i, .slice (some ⟨vb, 0, none⟩) 1 vc] w fun e w' => InsAtI base n i (.slice (some ⟨g, 0, none⟩) n c) xs us w e w' := by
  obtain ⟨cur, hbg, hg, hnc, hcm, hcs, htk⟩ := own_parts hr
  have hxl := hr.1
  have hgw : g < w.heap.size := (Array.getElem?_eq_some_iff.1 hg).1
  have hvw : vb < w.heap.size := (Array.getElem?_eq_some_iff.1 hv).1
  have hcl : cur.toList.length = c * 1 := by simpa using hcs
  have hov : ∀ lb cb, (callFunc 60 #[.slice (some ⟨vb, 0, none⟩) 1 vc, .slice (some ⟨g, (i + 1), none⟩) lb cb]).run Try.prog w = .ok (.value (.bool false)) w := fun lb cb => by
    rw [run_callFunc_extern Try.func60 (by kernel_rfl) (by kernel_rfl) (by kernel_rfl) (e := Extern.SlicesOverlaps.overlaps #[23, 23] #[4]) (by kernel_rfl),
      Lib.run_overlaps_apart w 23 4 2 Try.underlying23 1 Try.sizeInsI ⟨vb, 0, none⟩ ⟨g, (i + 1), none⟩ 1 vc lb cb (fun e => hne e.symm) 2 2 1 (c * 1) (by simp [World.shape?, hv, hu]) (by simp [World.shape?, hg, hcs]) (by omega) (frozen_of_row w vb 0 _ _ hv) (frozen_of_row w vb _ _ _ hv)]
    rfl
  obtain ⟨c1, hc1⟩ : ∃ c1 : List Value, c1 = cur.toList.take (i * 1 + 1) ++ xs.drop (i * 1) ++ cur.toList.drop (i * 1 + 1 + (xs.drop (i * 1)).length) := ⟨_, rfl⟩
  have lc1 : c1.length = c * 1 := by rw [hc1]; simp [hcs]; omega
  obtain ⟨W1, hW1⟩ : ∃ W1, W1 = w.drew.setRow g c1.toArray := ⟨_, rfl⟩
  have hcp1 : ∀ ty dl dc sc, dl = n - i → (Builtin.copy_ #[23, 23] ty #[.slice (some ⟨g, (i + 1), none⟩) dl dc, .slice (some ⟨g, i, none⟩) (n + 1 - i) sc]).run Try.prog w.drew = .ok (goInt (n - i : Nat)) W1 := fun ty dl dc sc hdl => by
    subst hdl
    have h := run_copy_wide (P := Try.prog) w.drew 23 23 ty 2 1 g (i * 1 + 1) (n - i) dc (n - i) ⟨g, i * 1, none⟩ (n + 1 - i) sc _ _ (xs.drop (i * 1)) Try.underlying23 Try.siInsI hg (by simp only [Nat.min_def]; split <;> omega) (by simp; omega)
      (fun j v hj => by
        rw [Addr.add_lit]
        rw [List.getElem?_drop] at hj
        have hj' := (List.getElem?_eq_some_iff.1 hj).1
        exact (World.ownsRow.cellAt hr _ (by omega)).trans hj) (by simp [hcs]; omega) (fun v hv => h1x v (List.mem_of_mem_drop hv))
    rw [hW1, hc1]
    simpa [Nat.add_mul] using h
  have hg1 : W1.heap[g]? = some (.cells c1.toArray 2 (0, 0)) := by rw [hW1]; exact setRow_heap w.drew _ _ _ _ _ hg
  have hv1 : W1.heap[vb]? = some (.cells us.toArray 2 (0, 0)) := by rw [hW1, setRow_other w.drew g vb _ (fun e => hne e.symm)]; exact hv
  obtain ⟨c2, hc2⟩ : ∃ c2 : List Value, c2 = c1.take (i * 1) ++ us ++ c1.drop (i * 1 + us.length) := ⟨_, rfl⟩
  obtain ⟨W2, hW2⟩ : ∃ W2, W2 = W1.setRow g c2.toArray := ⟨_, rfl⟩
  have hcp2 : ∀ ty dc, (Builtin.copy_ #[23, 23] ty #[.slice (some ⟨g, i, none⟩) (n + 1 - i) dc, .slice (some ⟨vb, 0, none⟩) 1 vc]).run Try.prog W1 = .ok (goInt 1) W2 := fun ty dc => by
    have h := run_copy_wide (P := Try.prog) W1 23 23 ty 2 1 g (i * 1) (n + 1 - i) dc 1 ⟨vb, 0, none⟩ 1 vc _ _ us Try.underlying23 Try.siInsI hg1 (by simp only [Nat.min_def]; split <;> omega) (by omega)
      (fun j v hj => by rw [Addr.add_lit, Nat.zero_add, cell_of_row W1 vb j us.toArray _ (0, 0) hv1]; simpa using hj) (by simp [lc1]; omega) h1u
    rw [hW2, hc2]
    simpa using h
  have hsr := shift_row cur.toList us xs (i * 1) 1 (by rw [hxl]; exact htk) (by omega) hu (by rw [hcl]; omega)
  simp only [← hc1] at hsr
  rw [← hc2, hcl] at hsr
  have hfin : InsAtI base n i (.slice (some ⟨g, 0, none⟩) n c) xs us w (.returned (.slice (some ⟨g, 0, none⟩) (n + 1) c)) W2 := by
    refine ⟨g, c, rfl, own_mk c2.toArray (by rw [putAt_len]; omega) hbg (by rw [hW2]; exact setRow_heap W1 _ _ _ _ _ hg1) hc hcm (by simpa using hsr.2) (by rw [show (n + 1) * 1 = xs.length + 1 by omega]; exact hsr.1), ?_, .inl rfl⟩
    refine ⟨by rw [hW2, hW1]; rfl, by rw [hW2, hW1]; rfl, by rw [hW2, hW1]; rfl, by rw [hW2, hW1]; simp, fun k hk hkg => ?_⟩
    have hkg : k ≠ g := fun e => hkg (by rw [e]; simp [Value.ownBlock])
    rw [hW2, setRow_other W1 _ k _ hkg, hW1, setRow_other w.drew _ k _ hkg]; rfl
  have HF := Lib.hid hfin
  have HA := Lib.hid hcp1
  have HB := Lib.hid hcp2
  unfold maxLen at hcm
  clear hfin hcp1 hcp2 hsr hg1 hv1 hW1 hW2 hc1 hc2 lc1 hcl htk hcs hr
  have mixed : Try.prog.follows .mixedOrders = true := by kernel_rfl
  have hz2' : ¬ ((i : Int) = (n : Int)) := by omega
  have hw1 : IntKind.i64.wrap ((i : Int) + 1) = (i : Int) + 1 := by rw [IntKind.wrap_i64]; omega
  have hb1 : (0 : Int) ≤ (i : Int) + 1 := by omega
  have hin : i ≤ n := by omega
  have htn : ((i : Int) + 1).toNat = i + 1 := by omega
  have hb2 : ¬ (c = i + 1) := by omega
  have hb3 : (i : Int) ≤ (n : Int) + 1 := by omega
  have hb4 : ¬ (c = i) := by omega
  go_enter Try.func44, Try.ntmps44
  go_wp2_with (simp only [hov])
  go_region_law_o (refine step_copy_runI rfl _ _ 23 23 rfl _ _ (by simp [Act.eval, Act.put]) (by simp [Act.eval, Act.put]) (HA.out _ (n - i) (c - (i + 1)) (c - i) rfl) ?_)
  go_wp2_with (simp only [HB.out])
  go_ret
  exact HF.out
set_option maxHeartbeats 4000000 in
/-- the place is the last. -/
theorem insI_end (base n c vb vc : Nat) (A : Option Addr) (xs us : List Value) (w : World) (hr : w.ownsRow base 2 1 (.slice A n c) n xs) (hbase : base ≤ w.heap.size) (hn : n ≤ 1048576)
    (hv : w.heap[vb]? = some (.cells us.toArray 2 (0, 0))) (hu : us.length = 1) (h1u : ∀ u ∈ us, u.oneCell' = true) :
    Calls Try.prog 44 #[.slice A n c, .int .i64 n, .slice (some ⟨vb, 0, none⟩) 1 vc] w fun e w' => InsAtI base n n (.slice A n c) xs us w e w' := by
  obtain ⟨i0, hi0, hz0, hz1, hz2⟩ := info_parts Try.infoInsI
  obtain ⟨hnc, hcm, hA⟩ := own_cap hr
  unfold maxLen at hcm
  have hxl := hr.1
  have hx : putAt xs us (n * 1) = xs ++ us := by unfold putAt; rw [List.take_of_length_le (by omega), List.drop_of_length_le (by omega), List.append_nil]
  unfold InsAtI
  rw [hx]
  have hnn : ((n : Int) == (n : Int)) = true := by simp
  clear hx
  go_enter Try.func44, Try.ntmps44
  rcases own_none hr with ⟨rfl, rfl, rfl⟩ | ⟨g, rfl⟩
  all_goals
    go_wp2_with (at_builtin; refine wpList_append_lies _ rfl _ _ 23 rfl base 2 i0 (.int .i64 0) 1 8 Try.underlying23 hi0 hz0 hz1 hz2 rfl (by decide) _ _ _ rfl hr ⟨vb, 0, none⟩ 1 vc us rfl (by omega) (fun j u hj => by rw [Addr.add_lit, Nat.zero_add, cell_of_row w vb j us.toArray _ (0, 0) hv]; simpa using hj) h1u (by omega) (by unfold maxLen; omega) (by omega) hbase _ rfl ?_)
    all_goals
      intro g' c' w1 hown hgrow hat hlt
      go_wp2
      go_ret
      refine ⟨g', c', rfl, hown, hgrow, ?_⟩
      rcases hat with h | h
      · exact .inl h
      · exact .inr (by omega)
theorem insI_any (base n c i vb vc : Nat) (A : Option Addr) (xs us : List Value) (w : World) (hr : w.ownsRow base 2 1 (.slice A n c) n xs) (hbase : base ≤ w.heap.size) (hi : i ≤ n) (hn : n ≤ 1048576)
    (hv : w.heap[vb]? = some (.cells us.toArray 2 (0, 0))) (hu : us.length = 1) (h1u : ∀ u ∈ us, u.oneCell' = true) (h1x : ∀ u ∈ xs, u.oneCell' = true) (hne : (Value.slice A n c).ownBlock ≠ some vb) :
    Calls Try.prog 44 #[.slice A n c, .int .i64 i, .slice (some ⟨vb, 0, none⟩) 1 vc] w fun e w' => InsAtI base n i (.slice A n c) xs us w e w' := by
  rcases Nat.lt_or_ge i n with h | h
  · rcases own_none hr with ⟨rfl, rfl, rfl⟩ | ⟨g, rfl⟩
    · omega
    · have hne : g ≠ vb := fun e => hne (by rw [e]; simp [Value.ownBlock])
      rcases Nat.lt_or_ge c (n + 1) with h1 | h1
      · exact insI_grow base n c i vb vc g xs us w hr hbase h hn h1 hv hu h1u h1x
      · exact insI_room base n c i vb vc g xs us w hr hbase h hn h1 hv hu h1u h1x hne
  · obtain rfl : i = n := by omega
    exact insI_end base i c vb vc A xs us w hr hbase hn hv hu h1u
end Go.Proofs.Ytopaobjpcafjlaa

-- InsN: slices.Insert of one element, as the program calls it, at one type of element. No statement of the program is proved here.
namespace Go.Proofs.Ytopaobjpcafjlaa
set_option maxRecDepth 100000
set_option linter.unusedVariables false
set_option linter.unusedSimpArgs false
open Go.RowKit

theorem Try.infoInsN : (Try.prog.info? 52).map (fun i => (i.zero, i.size, i.bytes)) = some (some (.agg #[.int .i64 0, .slice none 0 0, .slice none 0 0, .string ⟨#[]⟩]), 4, 72) := by kernel_rfl
theorem Try.sizeInsN : ∀ w, (Go.sizeOf 52).run Try.prog w = .ok 4 w := by
  intro w
  obtain ⟨i0, hi0, hz0, hz1, hz2⟩ := info_parts Try.infoInsN
  simp [sizeOf, typeInfo, hi0, hz1]
theorem Try.siInsN : (Try.prog.info? 52).map (·.size) = some 4 := by
  obtain ⟨i0, hi0, hz0, hz1, hz2⟩ := info_parts Try.infoInsN
  rw [hi0]; simp [hz1]
/-- what insertion of one element leaves. -/
def InsAtN (base n i : Nat) (v : Value) (xs us : List Value) (w : World) (e : Ending) (w' : World) : Prop :=
  ∃ g' c', e = .returned (.slice (some ⟨g', 0, none⟩) (n + 1) c') ∧ w'.ownsRow base 52 4 (.slice (some ⟨g', 0, none⟩) (n + 1) c') (n + 1) (putAt xs us (i * 4)) ∧ w.grownBy w' v.ownBlock ∧ (v.ownBlock = some g' ∨ w.heap.size ≤ g')
set_option maxHeartbeats 4000000 in
/-- there is no room, and the place is not the last. -/
theorem insN_grow (base n c i vb vc g : Nat) (xs us : List Value) (w : World) (hr : w.ownsRow base 52 4 (.slice (some ⟨g, 0, none⟩) n c) n xs) (hbase : base ≤ w.heap.size) (hi : i < n) (hn : n ≤ 1048576) (hc : c < n + 1)
    (hv : w.heap[vb]? = some (.cells us.toArray 52 (0, 0))) (hu : us.length = 4) (h1u : ∀ u ∈ us, u.oneCell' = true) (h1x : ∀ u ∈ xs, u.oneCell' = true) :
    Calls Try.prog 45 #[.slice (some ⟨g, 0, none⟩) n c, .int .i64 i, .slice (some ⟨vb, 0, none⟩) 1 vc] w fun e w' => InsAtN base n i (.slice (some ⟨g, 0, none⟩) n c) xs us w e w' := by
  obtain ⟨i0, hi0, hz0, hz1, hz2⟩ := info_parts Try.infoInsN
  obtain ⟨cur, hbg, hg, hnc, hcm, hcs, htk⟩ := own_parts hr
  have hxl := hr.1
  have hgw : g < w.heap.size := (Array.getElem?_eq_some_iff.1 hg).1
  have hvw : vb < w.heap.size := (Array.getElem?_eq_some_iff.1 hv).1
  obtain rfl : c = n := by omega
  have hold : (Builtin.firstCells i0.size i (.slice (some ⟨g, 0, none⟩) i c)).run Try.prog w.drew = .ok (xs.take (i * 4)).toArray w.drew := by
    rw [hz1]
    exact run_firstCells_some w.drew 4 i ⟨g, 0, none⟩ i c (xs.take (i * 4)) (by rw [List.length_take]; omega) (fun j v hj => by
      rw [Addr.add_lit, Nat.zero_add]
      rw [List.getElem?_take] at hj
      split at hj
      · exact (World.ownsRow.cellAt hr j (by omega)).trans hj
      · cases hj)
  obtain ⟨G, hG⟩ : ∃ G, G = grownCap w (c + 1) c 52 := ⟨_, rfl⟩
  have hGn : c + 1 ≤ G := by rw [hG]; exact grownCap_ge w _ _ _
  have hGm : G ≤ maxLen := by rw [hG]; exact grownCap_le_maxLen w (c + 1) c _ (by unfold maxLen; omega)
  obtain ⟨ZS, hZS⟩ : ∃ ZS : List Value, ZS = (Builtin.zeroCells (.agg #[.int .i64 0, .slice none 0 0, .slice none 0 0, .string ⟨#[]⟩] : Value).cells (c + 1 - i)).toList ++ (Builtin.zeroCells (.agg #[.int .i64 0, .slice none 0 0, .slice none 0 0, .string ⟨#[]⟩] : Value).cells (G - (c + 1))).toList := ⟨_, rfl⟩
  have hZl : ZS.length = (G - i) * 4 := by
    rw [hZS]
    simp [Builtin.zeroCells, Value.cells]
    omega
  obtain ⟨W1, hW1⟩ : ∃ W1, W1 = w.drew.alloc (.cells (xs.take (i * 4) ++ ZS).toArray 52) := ⟨_, rfl⟩
  have hrz : ∀ ty, (Builtin.append_ #[42, 3] ty #[.slice (some ⟨g, 0, none⟩) i c, .int .i64 ((c : Int) + 1 - (i : Int))]).run Try.prog w = .ok (.slice (some ⟨w.heap.size, 0, none⟩) (c + 1) G) W1 := fun ty => by
    have h := Lib.run_append_grow_zeros w 42 3 ty 52 i0 _ .i64 .i64 Try.underlying42 Try.underlying3 hi0 hz0 (some ⟨g, 0, none⟩) i c (xs.take (i * 4)) hold (c + 1 - i) (by omega) (by omega) (by omega) (by omega) (by rw [hz2]; omega)
      (by rw [hz2, show i + (c + 1 - i) = c + 1 by omega]; exact growslice_fits (by omega) (by omega))
    rw [show i + (c + 1 - i) = c + 1 by omega, ← hG, show (((c + 1 - i : Nat) : Nat) : Int) = (c : Int) + 1 - (i : Int) by omega] at h
    rw [h, hW1, hZS]
    congr 3
    apply Array.ext'
    simp
  have hg1 : W1.heap[w.heap.size]? = some (.cells (xs.take (i * 4) ++ ZS).toArray 52 (0, 0)) := by rw [hW1]; exact heap_alloc_new w.drew _
  have ho1 : ∀ k, k < w.heap.size → W1.heap[k]? = w.heap[k]? := fun k hk => by rw [hW1]; exact heap_alloc_old w.drew _ hk
  have hs1 : w.grownBy W1 (some w.heap.size) := ⟨by rw [hW1]; rfl, by rw [hW1]; rfl, by rw [hW1]; rfl, by rw [hW1]; simp, fun k hk _ => ho1 k hk⟩
  have lc0 : (xs.take (i * 4) ++ ZS).length = G * 4 := by simp [hZl]; omega
  obtain ⟨c1, hc1⟩ : ∃ c1 : List Value, c1 = (xs.take (i * 4) ++ ZS).take (i * 4) ++ us ++ (xs.take (i * 4) ++ ZS).drop (i * 4 + us.length) := ⟨_, rfl⟩
  have lc1 : c1.length = G * 4 := by rw [hc1]; simp [hZl]; omega
  obtain ⟨W2, hW2⟩ : ∃ W2, W2 = W1.setRow w.heap.size c1.toArray := ⟨_, rfl⟩
  have hcpA : ∀ ty dc, (Builtin.copy_ #[42, 42] ty #[.slice (some ⟨w.heap.size, i * 4, none⟩) (c + 1 - i) dc, .slice (some ⟨vb, 0, none⟩) 1 vc]).run Try.prog W1 = .ok (goInt 1) W2 := fun ty dc => by
    have h := run_copy_wide (P := Try.prog) W1 42 42 ty 52 4 w.heap.size (i * 4) (c + 1 - i) dc 1 ⟨vb, 0, none⟩ 1 vc _ _ us Try.underlying42 Try.siInsN hg1 (by simp only [Nat.min_def]; split <;> omega) (by omega)
      (fun j v hj => by rw [Addr.add_lit, Nat.zero_add, cell_of_row W1 vb j us.toArray _ (0, 0) ((ho1 vb hvw).trans hv)]; simpa using hj) (by simp [hZl]; omega) h1u
    rw [hW2, hc1]
    simpa using h
  have hg2 : W2.heap[w.heap.size]? = some (.cells c1.toArray 52 (0, 0)) := by rw [hW2]; exact setRow_heap W1 _ _ _ _ _ hg1
  have ho2 : ∀ k, k < w.heap.size → W2.heap[k]? = w.heap[k]? := fun k hk => by rw [hW2, setRow_other W1 _ k _ (by omega)]; exact ho1 k hk
  obtain ⟨c2, hc2⟩ : ∃ c2 : List Value, c2 = c1.take (i * 4 + 4) ++ xs.drop (i * 4) ++ c1.drop (i * 4 + 4 + (xs.drop (i * 4)).length) := ⟨_, rfl⟩
  obtain ⟨W3, hW3⟩ : ∃ W3, W3 = W2.drew.setRow w.heap.size c2.toArray := ⟨_, rfl⟩
  have hcpB : ∀ ty dl dc sc, dl = c - i → (Builtin.copy_ #[42, 42] ty #[.slice (some ⟨w.heap.size, (i + 1) * 4, none⟩) dl dc, .slice (some ⟨g, i * 4, none⟩) (c - i) sc]).run Try.prog W2.drew = .ok (goInt (c - i : Nat)) W3 := fun ty dl dc sc hdl => by
    subst hdl
    have h := run_copy_wide (P := Try.prog) W2.drew 42 42 ty 52 4 w.heap.size (i * 4 + 4) (c - i) dc (c - i) ⟨g, i * 4, none⟩ (c - i) sc _ _ (xs.drop (i * 4)) Try.underlying42 Try.siInsN hg2 (by simp only [Nat.min_def]; split <;> omega) (by simp; omega)
      (fun j v hj => by
        rw [Addr.add_lit]
        rw [List.getElem?_drop] at hj
        have hj' := (List.getElem?_eq_some_iff.1 hj).1
        rw [show W2.drew.cell? ⟨g, i * 4 + j, none⟩ = W2.cell? ⟨g, i * 4 + j, none⟩ from rfl, cell_of_row W2 g _ cur _ (0, 0) ((ho2 g hgw).trans hg)]
        rw [← cell_of_row w g _ cur _ (0, 0) hg]
        exact (World.ownsRow.cellAt hr _ (by omega)).trans hj) (by simp [lc1]; omega) (fun v hv => h1x v (List.mem_of_mem_drop hv))
    rw [hW3, hc2]
    simpa [Nat.add_mul] using h
  have hgr := grow_row xs us ZS (i * 4) 4 (by omega) hu (by rw [hZl]; omega)
  simp only [← hc1] at hgr
  rw [← hc2, lc0] at hgr
  have hfin : InsAtN base c i (.slice (some ⟨g, 0, none⟩) c c) xs us w (.returned (.slice (some ⟨w.heap.size, 0, none⟩) (c + 1) G)) W3 := by
    refine ⟨w.heap.size, G, rfl, own_mk c2.toArray (by rw [putAt_len]; omega) hbase (by rw [hW3]; exact setRow_heap W2.drew _ _ _ _ _ hg2) hGn hGm (by simpa using hgr.2) (by rw [show (c + 1) * 4 = xs.length + 4 by omega]; exact hgr.1), ?_, .inr (Nat.le_refl _)⟩
    refine ⟨by rw [hW3, hW2]; exact hs1.os, by rw [hW3, hW2]; exact hs1.tape, by rw [hW3, hW2]; exact hs1.output, by rw [hW3, hW2]; simpa using hs1.size, fun k hk _ => ?_⟩
    rw [hW3, setRow_other W2.drew _ k _ (by omega)]; exact ho2 k hk
  have HF := Lib.hid hfin
  have HA := Lib.hid hrz
  have HB := Lib.hid hcpA
  have HC := Lib.hid hcpB
  clear hfin hrz hcpA hcpB hgr hg1 ho1 hs1 hg2 ho2 hold hG hW1 hW2 hW3 hZS hc1 hc2 lc0 lc1 hZl htk hcs hr hz0
  unfold maxLen at hGm
  have mixed : Try.prog.follows .mixedOrders = true := by kernel_rfl
  have hz2' : ¬ ((i : Int) = (c : Int)) := by omega
  have hz3 : (c : Int) < (c : Int) + 1 := by omega
  have hw1 : IntKind.i64.wrap ((i : Int) + 1) = (i : Int) + 1 := by rw [IntKind.wrap_i64]; omega
  have htn : ((i : Int) + 1).toNat = i + 1 := by omega
  have hGi : ¬ (G = i) := by omega
  have hGim : ¬ (G = i + 1) := by omega
  have hci : ¬ (c = i) := by omega
  have hb1 : (0 : Int) ≤ (i : Int) + 1 := by omega
  have hin : i ≤ c := by omega
  have hb3 : (i : Int) ≤ (c : Int) := by omega
  go_enter Try.func45, Try.ntmps45
  go_wp2_with (first
    | (at_builtin; refine Lib.wpList_append_run _ rfl _ _ _ _ rfl _ _ rfl rfl _ _ (HA.out _) ?_)
    | (simp only [HB.out]))
  go_region_law_o (refine step_copy_runI rfl _ _ 42 42 rfl _ _ (by simp [Act.eval, Act.put]) (by simp [Act.eval, Act.put]) (HC.out _ (c - i) (G - (i + 1)) (c - i) rfl) ?_)
  go_wp2
  go_ret
  exact HF.out
set_option maxHeartbeats 4000000 in
/-- there is room, and the place is not the last. -/
theorem insN_room (base n c i vb vc g : Nat) (xs us : List Value) (w : World) (hr : w.ownsRow base 52 4 (.slice (some ⟨g, 0, none⟩) n c) n xs) (hbase : base ≤ w.heap.size) (hi : i < n) (hn : n ≤ 1048576) (hc : n + 1 ≤ c)
    (hv : w.heap[vb]? = some (.cells us.toArray 52 (0, 0))) (hu : us.length = 4) (h1u : ∀ u ∈ us, u.oneCell' = true) (h1x : ∀ u ∈ xs, u.oneCell' = true) (hne : g ≠ vb) :
    Calls Try.prog 45 #[.slice (some ⟨g, 0, none⟩) n c, .int .i64 i, .slice (some ⟨vb, 0, none⟩) 1 vc] w fun e w' => InsAtN base n i (.slice (some ⟨g, 0, none⟩) n c) xs us w e w' := by
  obtain ⟨cur, hbg, hg, hnc, hcm, hcs, htk⟩ := own_parts hr
  have hxl := hr.1
  have hgw : g < w.heap.size := (Array.getElem?_eq_some_iff.1 hg).1
  have hvw : vb < w.heap.size := (Array.getElem?_eq_some_iff.1 hv).1
  have hcl : cur.toList.length = c * 4 := by simpa using hcs
  have hov : ∀ lb cb, (callFunc 62 #[.slice (some ⟨vb, 0, none⟩) 1 vc, .slice (some ⟨g, (i + 1) * 4, none⟩) lb cb]).run Try.prog w = .ok (.value (.bool false)) w := fun lb cb => by
    rw [run_callFunc_extern Try.func62 (by kernel_rfl) (by kernel_rfl) (by kernel_rfl) (e := Extern.SlicesOverlaps.overlaps #[42, 42] #[4]) (by kernel_rfl),
      Lib.run_overlaps_apart w 42 4 52 Try.underlying42 4 Try.sizeInsN ⟨vb, 0, none⟩ ⟨g, (i + 1) * 4, none⟩ 1 vc lb cb (fun e => hne e.symm) 52 52 4 (c * 4) (by simp [World.shape?, hv, hu]) (by simp [World.shape?, hg, hcs]) (by omega) (frozen_of_row w vb 0 _ _ hv) (frozen_of_row w vb _ _ _ hv)]
    rfl
  obtain ⟨c1, hc1⟩ : ∃ c1 : List Value, c1 = cur.toList.take (i * 4 + 4) ++ xs.drop (i * 4) ++ cur.toList.drop (i * 4 + 4 + (xs.drop (i * 4)).length) := ⟨_, rfl⟩
  have lc1 : c1.length = c * 4 := by rw [hc1]; simp [hcs]; omega
  obtain ⟨W1, hW1⟩ : ∃ W1, W1 = w.drew.setRow g c1.toArray := ⟨_, rfl⟩
  have hcp1 : ∀ ty dl dc sc, dl = n - i → (Builtin.copy_ #[42, 42] ty #[.slice (some ⟨g, (i + 1) * 4, none⟩) dl dc, .slice (some ⟨g, i * 4, none⟩) (n + 1 - i) sc]).run Try.prog w.drew = .ok (goInt (n - i : Nat)) W1 := fun ty dl dc sc hdl => by
    subst hdl
    have h := run_copy_wide (P := Try.prog) w.drew 42 42 ty 52 4 g (i * 4 + 4) (n - i) dc (n - i) ⟨g, i * 4, none⟩ (n + 1 - i) sc _ _ (xs.drop (i * 4)) Try.underlying42 Try.siInsN hg (by simp only [Nat.min_def]; split <;> omega) (by simp; omega)
      (fun j v hj => by
        rw [Addr.add_lit]
        rw [List.getElem?_drop] at hj
        have hj' := (List.getElem?_eq_some_iff.1 hj).1
        exact (World.ownsRow.cellAt hr _ (by omega)).trans hj) (by simp [hcs]; omega) (fun v hv => h1x v (List.mem_of_mem_drop hv))
    rw [hW1, hc1]
    simpa [Nat.add_mul] using h
  have hg1 : W1.heap[g]? = some (.cells c1.toArray 52 (0, 0)) := by rw [hW1]; exact setRow_heap w.drew _ _ _ _ _ hg
  have hv1 : W1.heap[vb]? = some (.cells us.toArray 52 (0, 0)) := by rw [hW1, setRow_other w.drew g vb _ (fun e => hne e.symm)]; exact hv
  obtain ⟨c2, hc2⟩ : ∃ c2 : List Value, c2 = c1.take (i * 4) ++ us ++ c1.drop (i * 4 + us.length) := ⟨_, rfl⟩
  obtain ⟨W2, hW2⟩ : ∃ W2, W2 = W1.setRow g c2.toArray := ⟨_, rfl⟩
  have hcp2 : ∀ ty dc, (Builtin.copy_ #[42, 42] ty #[.slice (some ⟨g, i * 4, none⟩) (n + 1 - i) dc, .slice (some ⟨vb, 0, none⟩) 1 vc]).run Try.prog W1 = .ok (goInt 1) W2 := fun ty dc => by
    have h := run_copy_wide (P := Try.prog) W1 42 42 ty 52 4 g (i * 4) (n + 1 - i) dc 1 ⟨vb, 0, none⟩ 1 vc _ _ us Try.underlying42 Try.siInsN hg1 (by simp only [Nat.min_def]; split <;> omega) (by omega)
      (fun j v hj => by rw [Addr.add_lit, Nat.zero_add, cell_of_row W1 vb j us.toArray _ (0, 0) hv1]; simpa using hj) (by simp [lc1]; omega) h1u
    rw [hW2, hc2]
    simpa using h
  have hsr := shift_row cur.toList us xs (i * 4) 4 (by rw [hxl]; exact htk) (by omega) hu (by rw [hcl]; omega)
  simp only [← hc1] at hsr
  rw [← hc2, hcl] at hsr
  have hfin : InsAtN base n i (.slice (some ⟨g, 0, none⟩) n c) xs us w (.returned (.slice (some ⟨g, 0, none⟩) (n + 1) c)) W2 := by
    refine ⟨g, c, rfl, own_mk c2.toArray (by rw [putAt_len]; omega) hbg (by rw [hW2]; exact setRow_heap W1 _ _ _ _ _ hg1) hc hcm (by simpa using hsr.2) (by rw [show (n + 1) * 4 = xs.length + 4 by omega]; exact hsr.1), ?_, .inl rfl⟩
    refine ⟨by rw [hW2, hW1]; rfl, by rw [hW2, hW1]; rfl, by rw [hW2, hW1]; rfl, by rw [hW2, hW1]; simp, fun k hk hkg => ?_⟩
    have hkg : k ≠ g := fun e => hkg (by rw [e]; simp [Value.ownBlock])
    rw [hW2, setRow_other W1 _ k _ hkg, hW1, setRow_other w.drew _ k _ hkg]; rfl
  have HF := Lib.hid hfin
  have HA := Lib.hid hcp1
  have HB := Lib.hid hcp2
  unfold maxLen at hcm
  clear hfin hcp1 hcp2 hsr hg1 hv1 hW1 hW2 hc1 hc2 lc1 hcl htk hcs hr
  have mixed : Try.prog.follows .mixedOrders = true := by kernel_rfl
  have hz2' : ¬ ((i : Int) = (n : Int)) := by omega
  have hw1 : IntKind.i64.wrap ((i : Int) + 1) = (i : Int) + 1 := by rw [IntKind.wrap_i64]; omega
  have hb1 : (0 : Int) ≤ (i : Int) + 1 := by omega
  have hin : i ≤ n := by omega
  have htn : ((i : Int) + 1).toNat = i + 1 := by omega
  have hb2 : ¬ (c = i + 1) := by omega
  have hb3 : (i : Int) ≤ (n : Int) + 1 := by omega
  have hb4 : ¬ (c = i) := by omega
  go_enter Try.func45, Try.ntmps45
  go_wp2_with (simp only [hov])
  go_region_law_o (refine step_copy_runI rfl _ _ 42 42 rfl _ _ (by simp [Act.eval, Act.put]) (by simp [Act.eval, Act.put]) (HA.out _ (n - i) (c - (i + 1)) (c - i) rfl) ?_)
  go_wp2_with (simp only [HB.out])
  go_ret
  exact HF.out
set_option maxHeartbeats 4000000 in
/-- the place is the last. -/
theorem insN_end (base n c vb vc : Nat) (A : Option Addr) (xs us : List Value) (w : World) (hr : w.ownsRow base 52 4 (.slice A n c) n xs) (hbase : base ≤ w.heap.size) (hn : n ≤ 1048576)
    (hv : w.heap[vb]? = some (.cells us.toArray 52 (0, 0))) (hu : us.length = 4) (h1u : ∀ u ∈ us, u.oneCell' = true) :
    Calls Try.prog 45 #[.slice A n c, .int .i64 n, .slice (some ⟨vb, 0, none⟩) 1 vc] w fun e w' => InsAtN base n n (.slice A n c) xs us w e w' := by
  obtain ⟨i0, hi0, hz0, hz1, hz2⟩ := info_parts Try.infoInsN
  obtain ⟨hnc, hcm, hA⟩ := own_cap hr
  unfold maxLen at hcm
  have hxl := hr.1
  have hx : putAt xs us (n * 4) = xs ++ us := by unfold putAt; rw [List.take_of_length_le (by omega), List.drop_of_length_le (by omega), List.append_nil]
  unfold InsAtN
  rw [hx]
  have hnn : ((n : Int) == (n : Int)) = true := by simp
  clear hx
  go_enter Try.func45, Try.ntmps45
  rcases own_none hr with ⟨rfl, rfl, rfl⟩ | ⟨g, rfl⟩
  all_goals
    go_wp2_with (at_builtin; refine wpList_append_lies _ rfl _ _ 42 rfl base 52 i0 (.agg #[.int .i64 0, .slice none 0 0, .slice none 0 0, .string ⟨#[]⟩]) 4 72 Try.underlying42 hi0 hz0 hz1 hz2 rfl (by decide) _ _ _ rfl hr ⟨vb, 0, none⟩ 1 vc us rfl (by omega) (fun j u hj => by rw [Addr.add_lit, Nat.zero_add, cell_of_row w vb j us.toArray _ (0, 0) hv]; simpa using hj) h1u (by omega) (by unfold maxLen; omega) (by omega) hbase _ rfl ?_)
    all_goals
      intro g' c' w1 hown hgrow hat hlt
      go_wp2
      go_ret
      refine ⟨g', c', rfl, hown, hgrow, ?_⟩
      rcases hat with h | h
      · exact .inl h
      · exact .inr (by omega)
theorem insN_any (base n c i vb vc : Nat) (A : Option Addr) (xs us : List Value) (w : World) (hr : w.ownsRow base 52 4 (.slice A n c) n xs) (hbase : base ≤ w.heap.size) (hi : i ≤ n) (hn : n ≤ 1048576)
    (hv : w.heap[vb]? = some (.cells us.toArray 52 (0, 0))) (hu : us.length = 4) (h1u : ∀ u ∈ us, u.oneCell' = true) (h1x : ∀ u ∈ xs, u.oneCell' = true) (hne : (Value.slice A n c).ownBlock ≠ some vb) :
    Calls Try.prog 45 #[.slice A n c, .int .i64 i, .slice (some ⟨vb, 0, none⟩) 1 vc] w fun e w' => InsAtN base n i (.slice A n c) xs us w e w' := by
  rcases Nat.lt_or_ge i n with h | h
  · rcases own_none hr with ⟨rfl, rfl, rfl⟩ | ⟨g, rfl⟩
    · omega
    · have hne : g ≠ vb := fun e => hne (by rw [e]; simp [Value.ownBlock])
      rcases Nat.lt_or_ge c (n + 1) with h1 | h1
      · exact insN_grow base n c i vb vc g xs us w hr hbase h hn h1 hv hu h1u h1x
      · exact insN_room base n c i vb vc g xs us w hr hbase h hn h1 hv hu h1u h1x hne
  · obtain rfl : i = n := by omega
    exact insN_end base i c vb vc A xs us w hr hbase hn hv hu h1u
end Go.Proofs.Ytopaobjpcafjlaa

-- Sl: A list of nodes by name, as it lies in memory: keys in one row, nodes in another. No statement of the program is proved here.
namespace Go.Proofs.Ytopaobjpcafjlaa
set_option maxRecDepth 20000
set_option linter.unusedVariables false
set_option linter.unusedSimpArgs false
open Go.RowKit

/-- a node with the slices that hold its lists. -/
structure NV where
  Ap : Option Addr
  np : Nat
  cp : Nat
  Ak : Option Addr
  nk : Nat
  ck : Nat
  nd : MNode
def NV.cells (x : NV) : List Value := [.int .i64 x.nd.kind, .slice x.Ap x.np x.cp, .slice x.Ak x.nk x.ck, .string x.nd.val]
def NV.v (x : NV) : Value := .agg #[.int .i64 x.nd.kind, .slice x.Ap x.np x.cp, .slice x.Ak x.nk x.ck, .string x.nd.val]
def nv0 : NV := ⟨none, 0, 0, none, 0, 0, node0⟩
theorem NV.cells_len (x : NV) : x.cells.length = 4 := rfl
theorem NV.one (x : NV) : ∀ u ∈ x.cells, u.oneCell' = true := by
  intro u hu
  unfold NV.cells at hu
  simp at hu
  rcases hu with rfl | rfl | rfl | rfl <;> rfl
/-- block g holds some of the node's lists. -/
def NV.use (x : NV) (g : Nat) : Prop := (0 < x.np ∧ ∃ a, x.Ap = some a ∧ a.block = g) ∨ (0 < x.nk ∧ ∃ a, x.Ak = some a ∧ a.block = g)
theorem NV.of {w : World} {B : Nat} {v : Value} {nd : MNode} (h : NodeIn w B v nd) : ∃ x : NV, x.v = v ∧ x.nd = nd := by
  obtain ⟨Ap, np, cp, Ak, nk, ck, rfl, _⟩ := h
  exact ⟨⟨Ap, np, cp, Ak, nk, ck, nd⟩, rfl, rfl⟩
theorem Ints.use {w : World} {B n : Nat} {A : Option Addr} {xs : List Int} (h : Ints w B A n xs) (hn : 0 < n) (a : Addr) (ha : A = some a) : a.block < B := by
  obtain ⟨b, off, e, hb, _⟩ := h.2 hn
  rw [ha] at e; cases e; exact hb
theorem Kids.use {w : World} {B n : Nat} {A : Option Addr} {xs : List (Int × Int)} (h : Kids w B A n xs) (hn : 0 < n) (a : Addr) (ha : A = some a) : a.block < B := by
  obtain ⟨b, off, e, hb, _⟩ := h.at_ hn
  rw [ha] at e; cases e; exact hb
theorem NV.use_lt {w : World} {B : Nat} {x : NV} (h : NodeIn w B x.v x.nd) (g : Nat) (hg : x.use g) : g < B := by
  obtain ⟨Ap, np, cp, Ak, nk, ck, e, _, _, _, h1, h2⟩ := h
  unfold NV.v at e
  injection e with e
  simp at e
  obtain ⟨⟨e1, e2, e3⟩, e4, e5, e6⟩ := e
  rcases hg with ⟨hn, a, ha, rfl⟩ | ⟨hn, a, ha, rfl⟩
  · exact h1.use (by omega) a (e1 ▸ ha)
  · exact h2.use (by omega) a (e4 ▸ ha)

theorem Ints.touch {S : Nat → Prop} {w w' : World} {B n : Nat} {A : Option Addr} {xs : List Int} (h : Ints w B A n xs) (t : Touch S w w') (hB : B ≤ w.heap.size) (hn : 0 < n → ∀ a, A = some a → ¬ S a.block) : Ints w' B A n xs := by
  refine ⟨h.1, fun h0 => ?_⟩
  obtain ⟨b, off, e, hb, hc⟩ := h.2 h0
  refine ⟨b, off, e, hb, fun i hi => ?_⟩
  rw [World.cell?_of_block (t.block b (by omega) (hn h0 _ e))]
  exact hc i hi
theorem Kids.touch {S : Nat → Prop} {w w' : World} {B n : Nat} {A : Option Addr} {xs : List (Int × Int)} (h : Kids w B A n xs) (t : Touch S w w') (hB : B ≤ w.heap.size) (hn : 0 < n → ∀ a, A = some a → ¬ S a.block) : Kids w' B A n xs :=
  ⟨h.1, h.2.touch t hB (fun h0 => hn (by omega))⟩
theorem NV.touch {S : Nat → Prop} {w w' : World} {B : Nat} {x : NV} (h : NodeIn w B x.v x.nd) (t : Touch S w w') (hB : B ≤ w.heap.size) (hn : ∀ g, x.use g → ¬ S g) : NodeIn w' B x.v x.nd := by
  obtain ⟨Ap, np, cp, Ak, nk, ck, e, h1, h2, h3, h4, h5⟩ := h
  unfold NV.v at e
  injection e with e
  simp at e
  obtain ⟨⟨e1, e2, e3⟩, e4, e5, e6⟩ := e
  refine ⟨Ap, np, cp, Ak, nk, ck, by unfold NV.v; rw [e1, e2, e3, e4, e5, e6], h1, h2, h3, h4.touch t hB (fun h0 a ha => hn _ (.inl ⟨by omega, a, by rw [e1]; exact ha, rfl⟩)), h5.touch t hB (fun h0 a ha => hn _ (.inr ⟨by omega, a, by rw [e4]; exact ha, rfl⟩))⟩

/-- a list with one more put in at a place. -/
def insP {α : Type} (l : List α) (i : Nat) (q : α) : List α := l.take i ++ q :: l.drop i
theorem insP_len {α : Type} (l : List α) (i : Nat) (q : α) (h : i ≤ l.length) : (insP l i q).length = l.length + 1 := by unfold insP; simp; omega
theorem insP_mem {α : Type} (l : List α) (i : Nat) (q x : α) : x ∈ insP l i q ↔ x = q ∨ x ∈ l := by
  unfold insP
  conv => rhs; rw [← List.take_append_drop i l]
  simp only [List.mem_append, List.mem_cons]
  constructor
  · rintro (h | h | h)
    · exact .inr (.inl h)
    · exact .inl h
    · exact .inr (.inr h)
  · rintro (h | h | h)
    · exact .inr (.inl h)
    · exact .inl h
    · exact .inr (.inr h)
theorem insP_map {α β : Type} (f : α → β) (l : List α) (i : Nat) (q : α) : (insP l i q).map f = insP (l.map f) i (f q) := by unfold insP; simp [List.map_take, List.map_drop]
theorem insP_end {α : Type} (l : List α) (q : α) : insP l l.length q = l ++ [q] := by unfold insP; simp
theorem insP_low (l : List Int) (m : Int) (h : m ∉ l) : insP l (lowI l m) m = insI l m := by unfold insP insI; rw [lowI_place l m h]
theorem flat_take {α : Type} (f : α → List Value) (c : Nat) (hf : ∀ x, (f x).length = c) (l : List α) (i : Nat) : (l.flatMap f).take (i * c) = (l.take i).flatMap f := by
  induction l generalizing i with
  | nil => simp
  | cons x l ih =>
    cases i with
    | zero => simp
    | succ i =>
      rw [List.flatMap_cons, List.take_succ_cons, List.flatMap_cons, List.take_append, hf x, List.take_of_length_le (by rw [hf x, Nat.succ_mul]; omega), show (i + 1) * c - c = i * c by rw [Nat.succ_mul]; omega, ih i]
theorem flat_drop {α : Type} (f : α → List Value) (c : Nat) (hf : ∀ x, (f x).length = c) (l : List α) (i : Nat) : (l.flatMap f).drop (i * c) = (l.drop i).flatMap f := by
  induction l generalizing i with
  | nil => simp
  | cons x l ih =>
    cases i with
    | zero => simp
    | succ i =>
      rw [List.flatMap_cons, List.drop_succ_cons, List.drop_append, hf x, List.drop_of_length_le (by rw [hf x, Nat.succ_mul]; omega), show (i + 1) * c - c = i * c by rw [Nat.succ_mul]; omega, ih i, List.nil_append]
theorem flat_len {α : Type} (f : α → List Value) (c : Nat) (hf : ∀ x, (f x).length = c) (l : List α) : (l.flatMap f).length = l.length * c := by
  induction l with
  | nil => simp
  | cons x l ih => rw [List.flatMap_cons, List.length_append, ih, hf x, List.length_cons, Nat.succ_mul]; omega
theorem flat_put {α : Type} (f : α → List Value) (c : Nat) (hf : ∀ x, (f x).length = c) (l : List α) (i : Nat) (q : α) : putAt (l.flatMap f) (f q) (i * c) = (insP l i q).flatMap f := by
  unfold putAt insP
  rw [flat_take f c hf, flat_drop f c hf, List.flatMap_append, List.flatMap_cons, List.append_assoc]
theorem flat_at {α : Type} (f : α → List Value) (c : Nat) (hf : ∀ x, (f x).length = c) (l : List α) (i k : Nat) (hk : k < c) (hi : i < l.length) : (l.flatMap f)[i * c + k]? = (f l[i])[k]? := by
  have h1 : ((l.flatMap f).drop (i * c))[k]? = (l.flatMap f)[i * c + k]? := by rw [List.getElem?_drop]
  rw [← h1, flat_drop f c hf, List.drop_eq_getElem_cons hi, List.flatMap_cons, List.getElem?_append_left (by rw [hf]; exact hk)]

def nvs (ps : List (Int × NV)) : List Value := ps.flatMap fun p => p.2.cells
theorem nvs_len (ps : List (Int × NV)) : (nvs ps).length = ps.length * 4 := flat_len _ 4 (fun x => rfl) ps
theorem nvs_put (ps : List (Int × NV)) (i : Nat) (q : Int × NV) : putAt (nvs ps) q.2.cells (i * 4) = nvs (insP ps i q) := flat_put (fun p : Int × NV => p.2.cells) 4 (fun x => rfl) ps i q
theorem nvs_one (ps : List (Int × NV)) : ∀ u ∈ nvs ps, u.oneCell' = true := by
  intro u hu
  obtain ⟨p, _, h⟩ := List.mem_flatMap.1 hu
  exact p.2.one u h
theorem nvs_at (ps : List (Int × NV)) (i k : Nat) (hk : k < 4) (hi : i < ps.length) : (nvs ps)[i * 4 + k]? = ps[i].2.cells[k]? := flat_at (fun p : Int × NV => p.2.cells) 4 (fun x => rfl) ps i k hk hi
def kvs (ps : List (Int × NV)) : List Int := ps.map (·.1)
theorem kvs_put (ps : List (Int × NV)) (i : Nat) (q : Int × NV) : putAt ((kvs ps).map (Value.int .i64)) [.int .i64 q.1] (i * 1) = (kvs (insP ps i q)).map (Value.int .i64) := by
  unfold kvs putAt
  rw [insP_map, insP_map]
  unfold insP
  simp
theorem kvs_one (l : List Int) : ∀ u ∈ l.map (Value.int .i64), u.oneCell' = true := by
  intro u hu
  obtain ⟨x, _, rfl⟩ := List.mem_map.1 hu
  rfl

/-- the two rows of a list. -/
structure SR where
  Ak : Option Addr
  ck : Nat
  Av : Option Addr
  cv : Nat
def SR.kv (R : SR) (n : Nat) : Value := .slice R.Ak n R.ck
def SR.vv (R : SR) (n : Nat) : Value := .slice R.Av n R.cv
def SR.at_ (R : SR) (g : Nat) : Prop := (∃ a, R.Ak = some a ∧ a.block = g) ∨ (∃ a, R.Av = some a ∧ a.block = g)
def SR0 : SR := ⟨none, 0, none, 0⟩
/-- a list of nodes by name, in memory of the call's own from lo on. -/
structure SLN (w : World) (lo : Nat) (R : SR) (ps : List (Int × NV)) : Prop where
  keys : OwnI w lo R.Ak ps.length R.ck (kvs ps)
  vals : w.ownsRow lo 52 4 (.slice R.Av ps.length R.cv) ps.length (nvs ps)
  nodes : ∀ x ∈ ps, NodeIn w w.heap.size x.2.v x.2.nd
  apart : ∀ x ∈ ps, ∀ g, x.2.use g → ¬ R.at_ g
  rise : RiseI (kvs ps)
  len : ps.length ≤ 1000
theorem SLN.nil (w : World) (lo : Nat) : SLN w lo SR0 [] := ⟨OwnI.nil _ _, World.ownsRow_nil _ _ _ _, fun x hx => by simp at hx, fun x hx => by simp at hx, List.Pairwise.nil, by simp⟩
theorem SLN.lt {w : World} {lo : Nat} {R : SR} {ps : List (Int × NV)} (h : SLN w lo R ps) (g : Nat) (hg : R.at_ g) : lo ≤ g ∧ g < w.heap.size := by
  rcases hg with ⟨a, ha, rfl⟩ | ⟨a, ha, rfl⟩
  · exact h.keys.lt _ (by rw [ha]; rfl)
  · exact h.vals.lt _ (by rw [ha]; rfl)
theorem SLN.touch {S : Nat → Prop} {w w' : World} {lo : Nat} {R : SR} {ps : List (Int × NV)} (h : SLN w lo R ps) (t : Touch S w w') (h1 : ∀ g, R.at_ g → ¬ S g) (h2 : ∀ x ∈ ps, ∀ g, x.2.use g → ¬ S g) : SLN w' lo R ps :=
  ⟨h.keys.touch t (fun g hg => h1 g (.inl (by cases e : R.Ak with | none => rw [e] at hg; simp [Value.ownBlock] at hg | some a => rw [e] at hg; exact ⟨a, rfl, by simpa [Value.ownBlock] using hg⟩))),
    own_touch h.vals t (fun g hg => h1 g (.inr (by cases e : R.Av with | none => rw [e] at hg; simp [Value.ownBlock] at hg | some a => rw [e] at hg; exact ⟨a, rfl, by simpa [Value.ownBlock] using hg⟩))),
    fun x hx => (NV.touch (h.nodes x hx) t (Nat.le_refl _) (h2 x hx)).more t.size, h.apart, h.rise, h.len⟩
theorem SLN.below {w w' : World} {lo : Nat} {R : SR} {ps : List (Int × NV)} (h : SLN w lo R ps) (hb : Below w.heap.size w w') : SLN w' lo R ps :=
  h.touch (S := fun _ => False) (Touch.of_below hb) (fun _ _ h => h) (fun _ _ _ _ h => h)
end Go.Proofs.Ytopaobjpcafjlaa

-- SlAt: What the list of nodes answers under a name.
namespace Go.Proofs.Ytopaobjpcafjlaa
set_option maxRecDepth 20000
set_option linter.unusedVariables false
set_option linter.unusedSimpArgs false
open Go.RowKit

/-- what stands under a name in the list. -/
def AtIs (ps : List (Int × NV)) (m : Int) (x : NV) (b : Bool) : Prop :=
  (hitI (kvs ps) m = true ∧ b = true ∧ ∃ h : lowI (kvs ps) m < ps.length, ps[lowI (kvs ps) m] = (m, x)) ∨ (hitI (kvs ps) m = false ∧ b = false ∧ x = nv0)
theorem kvs_at (ps : List (Int × NV)) (i : Nat) (h : i < ps.length) : (kvs ps)[i]?.getD 0 = ps[i].1 := by unfold kvs; simp [h]
theorem kvs_len (ps : List (Int × NV)) : (kvs ps).length = ps.length := by simp [kvs]
theorem hit_parts (ps : List (Int × NV)) (m : Int) (h : hitI (kvs ps) m = true) : ∃ h : lowI (kvs ps) m < ps.length, ps[lowI (kvs ps) m].1 = m := by
  unfold hitI at h
  obtain ⟨h1, h2⟩ := of_decide_eq_true h
  rw [kvs_len] at h1
  exact ⟨h1, by rw [kvs_at ps _ h1] at h2; exact h2⟩
theorem SLN.row {w : World} {lo : Nat} {R : SR} {ps : List (Int × NV)} (h : SLN w lo R ps) (hn : 0 < ps.length) : ∃ g, R.Av = some ⟨g, 0, none⟩ ∧ lo ≤ g ∧ g < w.heap.size := by
  obtain ⟨g, cap, hv, h1, h2⟩ := World.ownsRow.form h.vals hn
  injection hv with hA
  exact ⟨g, hA, h1, h2⟩
set_option maxHeartbeats 1000000 in
theorem at_box {T : TypeId} {zs : Array Value} (p lo : Nat) (R : SR) (ps : List (Int × NV)) (m : Int) (w : World) (hx : Box w p T zs) (hz0 : zs[0]? = some (R.kv ps.length)) (hz1 : zs[1]? = some (R.vv ps.length)) (h : SLN w lo R ps) :
    Calls Try.prog 33 #[.pointer (some ⟨p, 0, none⟩), .int .i64 m] w fun e w' => ∃ x b, e = .returned (.tuple #[x.v, .bool b]) ∧ AtIs ps m x b ∧ Below w.heap.size w w' := by
  have hlen := h.len
  obtain ⟨w1, hw1⟩ : ∃ w1, w.alloc (.cells #[.int .i64 0, .slice none 0 0, .slice none 0 0, .string { data := #[] }] 52) = w1 := ⟨_, rfl⟩
  have x1 : Box w1 w.heap.size _ _ := hw1 ▸ heap_alloc_new _ _
  have s1 : w1.heap.size = w.heap.size + 1 := hw1 ▸ by simp
  have b1 : Below w.heap.size w w1 := hw1 ▸ (Below.refl _ _).alloc (Nat.le_refl _) _
  have hp := hx.lt
  have X1 := Lib.hid x1
  have B1 := Lib.hid b1
  have P1 := Lib.hid (hx.below b1 hp)
  have HS := Lib.hid (h.below b1)
  clear x1 b1 hx h
  have q0 := (P1.out.cell 0).trans hz0
  have q1 := (P1.out.cell 1).trans hz1
  have Z0 := Lib.hid hz0
  have Z1 := Lib.hid hz1
  clear hz0 hz1
  unfold SR.kv at q0
  unfold SR.vv at q1
  go_enter Try.func33, Try.ntmps33
  go_wp2_with fail
  refine (search_any R.Ak ps.length R.ck (kvs ps) m w1.heap.size w1 (by omega) HS.out.keys.ints HS.out.rise).mono ?_
  rintro e w2 ⟨rfl, nq, hq⟩
  have b2 : Below w1.heap.size w1 w2 := by rw [hq]; exact below_drewN (Below.refl _ _) nq
  have X2 := Lib.hid (X1.out.below b2 (by omega))
  have P2 := Lib.hid (P1.out.below b2 (by omega))
  have S2 := Lib.hid (HS.out.below b2)
  have B2 := Lib.hid (B1.out.trans (b2.mono (by omega)))
  have hs2 : w2.heap.size = w.heap.size + 1 := by rw [hq]; simpa using s1
  clear hq b2 hw1 q0 q1
  have q0 := (P2.out.cell 0).trans Z0.out
  have q1 := (P2.out.cell 1).trans Z1.out
  unfold SR.kv at q0
  unfold SR.vv at q1
  have q20 := X2.out.cell 0
  have q21 := X2.out.cell 1
  have q22 := X2.out.cell 2
  have q23 := X2.out.cell 3
  have f2 := X2.out.free
  simp at q20 q21 q22 q23
  obtain ⟨ht, hht⟩ : ∃ ht, hitI (kvs ps) m = ht := ⟨_, rfl⟩
  have HT := Lib.hid hht
  rw [hht]
  clear hht
  cases ht with
  | true =>
    obtain ⟨hk, he⟩ := hit_parts ps m HT.out
    obtain ⟨x, hx⟩ : ∃ x, ps[lowI (kvs ps) m].2 = x := ⟨_, rfl⟩
    have HX := Lib.hid (show ps[lowI (kvs ps) m] = (m, x) from Prod.ext he hx)
    obtain ⟨g, hg, _, hgl⟩ := S2.out.row (by omega)
    have hv := S2.out.vals
    rw [hg] at hv q1
    have hc : ∀ k, k < 4 → w2.cell? ⟨g, lowI (kvs ps) m * 4 + k, none⟩ = x.cells[k]? := fun k hk4 => by
      rw [World.ownsRow.cellAt hv _ (by omega), nvs_at ps _ k hk4 hk, hx]
    have c0 := hc 0 (by omega)
    have c1 := hc 1 (by omega)
    have c2 := hc 2 (by omega)
    have c3 := hc 3 (by omega)
    unfold NV.cells at c0 c1 c2 c3
    simp at c0 c1 c2 c3
    clear hc hv hg he hx
    obtain ⟨i, hi⟩ : ∃ i, lowI (kvs ps) m = i := ⟨_, rfl⟩
    have HI := Lib.hid hi
    rw [hi] at c0 c1 c2 c3 hk ⊢
    clear hi
    obtain ⟨Ap, np, cp, Ak, nk, ck, nd⟩ := x
    simp only at c0 c1 c2 c3
    have s4 := set4 X2.out (.int .i64 nd.kind) (.slice Ap np cp) (.slice Ak nk ck) (.string nd.val)
    have S4 := Lib.hid s4
    clear s4
    go_wp2
    refine bodyPost_ret (v := .tuple #[.agg #[.int .i64 nd.kind, .slice Ap np cp, .slice Ak nk ck, .string nd.val], .bool true]) (results_box2 Try.results33 _ _ w.heap.size _ _ _ _ rfl rfl S4.out.1 Try.underlying52 rfl (by kernel_rfl)) rfl ?_
    exact ⟨⟨Ap, np, cp, Ak, nk, ck, nd⟩, true, rfl, .inl ⟨HT.out, rfl, by rw [HI.out]; exact hk, by simpa [HI.out] using HX.out⟩, B2.out.trans (S4.out.2.below (by omega) (fun k hk e => by omega))⟩
  | false =>
    obtain ⟨i, hi⟩ : ∃ i, lowI (kvs ps) m = i := ⟨_, rfl⟩
    rw [hi]
    clear hi
    obtain ⟨w3, hw3⟩ : ∃ w3, w2.alloc (.cells #[.int .i64 0, .slice none 0 0, .slice none 0 0, .string { data := #[] }] 52) = w3 := ⟨_, rfl⟩
    have X3 := Lib.hid (show Box w3 w.heap.size 52 _ from X2.out.below (hw3 ▸ (Below.refl w2.heap.size w2).alloc (Nat.le_refl _) _) (by omega))
    have y3 : Box w3 w2.heap.size 52 #[.int .i64 0, .slice none 0 0, .slice none 0 0, .string { data := #[] }] := hw3 ▸ heap_alloc_new _ _
    rw [hs2] at y3
    have Y3 := Lib.hid y3
    have B3 := Lib.hid (B2.out.trans ((show Below w2.heap.size w2 w3 from hw3 ▸ (Below.refl w2.heap.size w2).alloc (Nat.le_refl _) _).mono (by omega)))
    clear q0 q1 q20 q21 q22 q23 f2 y3
    have q20 := X3.out.cell 0
    have q21 := X3.out.cell 1
    have q22 := X3.out.cell 2
    have q23 := X3.out.cell 3
    have f2 := X3.out.free
    have y20 := Y3.out.cell 0
    have y21 := Y3.out.cell 1
    have y22 := Y3.out.cell 2
    have y23 := Y3.out.cell 3
    simp at q20 q21 q22 q23 y20 y21 y22 y23
    have s4 := set4 X3.out (.int .i64 0) (.slice none 0 0) (.slice none 0 0) (.string { data := #[] })
    have S4 := Lib.hid s4
    clear s4
    go_wp2
    refine bodyPost_ret (v := .tuple #[.agg #[.int .i64 0, .slice none 0 0, .slice none 0 0, .string { data := #[] }], .bool false]) (results_box2 Try.results33 _ _ w.heap.size _ _ _ _ rfl rfl S4.out.1 Try.underlying52 rfl (by kernel_rfl)) rfl ?_
    exact ⟨nv0, false, rfl, .inr ⟨HT.out, rfl, rfl⟩, B3.out.trans (S4.out.2.below (by have := B3.out.size; omega) (fun k hk e => by omega))⟩
theorem at_any (p lo : Nat) (R : SR) (ps : List (Int × NV)) (m : Int) (w : World) (hx : Box w p 44 #[R.kv ps.length, R.vv ps.length]) (h : SLN w lo R ps) :
    Calls Try.prog 33 #[.pointer (some ⟨p, 0, none⟩), .int .i64 m] w fun e w' => ∃ x b, e = .returned (.tuple #[x.v, .bool b]) ∧ AtIs ps m x b ∧ Below w.heap.size w w' := at_box p lo R ps m w hx rfl rfl h
end Go.Proofs.Ytopaobjpcafjlaa

-- SlPut: Putting a node into the list under a name.
namespace Go.Proofs.Ytopaobjpcafjlaa
set_option maxRecDepth 100000
set_option linter.unusedVariables false
set_option linter.unusedSimpArgs false
open Go.RowKit

theorem kvs_not (ps : List (Int × NV)) (m : Int) (h : RiseI (kvs ps)) (ht : hitI (kvs ps) m = false) : m ∉ kvs ps := fun hm => by
  rw [(hitI_mem _ _ h).2 hm] at ht; cases ht
theorem own_box_ne {w : World} {lo p size n : Nat} {e t : TypeId} {cs : Array Value} {v : Value} {xs : List Value} (h : w.ownsRow lo e size v n xs) (hb : Box w p t cs) (hne : t ≠ e) : v.ownBlock ≠ some p := fun hv => by
  rcases h.2 with ⟨rfl, _⟩ | ⟨g, cap, cur, rfl, _, hg, _⟩
  · simp [Value.ownBlock] at hv
  · simp [Value.ownBlock] at hv
    subst hv
    rw [show w.heap[g]? = _ from hb] at hg
    cases hg
    exact hne rfl
theorem own_own_ne {w : World} {lo lo' size size' n n' : Nat} {e e' : TypeId} {v v' : Value} {xs xs' : List Value} (h : w.ownsRow lo e size v n xs) (h' : w.ownsRow lo' e' size' v' n' xs') (hne : e ≠ e') (g : Nat) (hv : v.ownBlock = some g) : v'.ownBlock ≠ some g := fun hv' => by
  rcases h.2 with ⟨rfl, _⟩ | ⟨g1, cap, cur, rfl, _, hg, _⟩
  · simp [Value.ownBlock] at hv
  · rcases h'.2 with ⟨rfl, _⟩ | ⟨g2, cap2, cur2, rfl, _, hg2, _⟩
    · simp [Value.ownBlock] at hv'
    · simp [Value.ownBlock] at hv hv'
      subst hv
      subst hv'
      rw [hg] at hg2
      cases hg2
      exact hne rfl
theorem SR.kvAt (R : SR) (n g : Nat) (h : (R.kv n).ownBlock = some g) : R.at_ g := by
  unfold SR.kv at h
  cases e : R.Ak with
  | none => rw [e] at h; simp [Value.ownBlock] at h
  | some a => rw [e] at h; exact .inl ⟨a, e, by simpa [Value.ownBlock] using h⟩
theorem SR.vvAt (R : SR) (n g : Nat) (h : (R.vv n).ownBlock = some g) : R.at_ g := by
  unfold SR.vv at h
  cases e : R.Av with
  | none => rw [e] at h; simp [Value.ownBlock] at h
  | some a => rw [e] at h; exact .inr ⟨a, e, by simpa [Value.ownBlock] using h⟩
/-- the rows behind a putting: those of before, or new ones. -/
def SR.from_ (R' R : SR) (B : Nat) : Prop := ∀ g, R'.at_ g → R.at_ g ∨ B ≤ g
theorem lowI_len (ps : List (Int × NV)) (m : Int) : lowI (kvs ps) m ≤ ps.length := by have := lowI_le (kvs ps) m; rw [kvs_len] at this; exact this
/-- what a putting leaves, once both rows are made. -/
theorem put_fin (p lo : Nat) (R : SR) (ps : List (Int × NV)) (m : Int) (x : NV) (w w5 w6 : World) (h : SLN w lo R ps) (hp : p < w.heap.size)
    (hn : NodeIn w w.heap.size x.v x.nd) (hu : ∀ g, x.use g → ¬ R.at_ g) (hup : ∀ g, x.use g → g ≠ p) (hpp : ∀ y ∈ ps, ∀ g, y.2.use g → g ≠ p) (hl : ps.length < 1000) (ht : hitI (kvs ps) m = false)
    (g4 c4 g6 c6 : Nat) (T5 : Touch (fun g => g = p ∨ R.at_ g) w w5)
    (P5 : Box w5 p 44 #[.slice (some ⟨g4, 0, none⟩) (ps.length + 1) c4, R.vv ps.length])
    (K5 : OwnI w5 lo (some ⟨g4, 0, none⟩) (ps.length + 1) c4 (kvs (insP ps (lowI (kvs ps) m) (m, x)))) (G4 : R.at_ g4 ∨ w.heap.size ≤ g4)
    (V5 : w5.ownsRow lo 52 4 (R.vv ps.length) ps.length (nvs ps))
    (t6 : Touch (fun g => (R.vv ps.length).ownBlock = some g) w5 w6)
    (o6 : w6.ownsRow lo 52 4 (.slice (some ⟨g6, 0, none⟩) (ps.length + 1) c6) (ps.length + 1) (nvs (insP ps (lowI (kvs ps) m) (m, x)))) (G6 : R.at_ g6 ∨ w.heap.size ≤ g6) :
    Box w6 p 44 #[.slice (some ⟨g4, 0, none⟩) (ps.length + 1) c4, R.vv ps.length] ∧
    ∃ R', Box (w6.setCell ⟨p, 1, none⟩ (.slice (some ⟨g6, 0, none⟩) (ps.length + 1) c6)) p 44 #[R'.kv (ps.length + 1), R'.vv (ps.length + 1)] ∧
      SLN (w6.setCell ⟨p, 1, none⟩ (.slice (some ⟨g6, 0, none⟩) (ps.length + 1) c6)) lo R' (insP ps (lowI (kvs ps) m) (m, x)) ∧ R'.from_ R w.heap.size ∧ Touch (fun g => g = p ∨ R.at_ g) w (w6.setCell ⟨p, 1, none⟩ (.slice (some ⟨g6, 0, none⟩) (ps.length + 1) c6)) := by
  have hvp : (R.vv ps.length).ownBlock ≠ some p := own_box_ne V5 P5 (by decide)
  have s5 := T5.size
  have P6 : Box w6 p 44 #[.slice (some ⟨g4, 0, none⟩) (ps.length + 1) c4, R.vv ps.length] := (t6.block p (by omega) (fun e => hvp e)).trans P5
  have K6 := K5.touch t6 (fun g hg e => own_own_ne K5 V5 (by decide) g hg e)
  have g4p : g4 ≠ p := fun e => own_box_ne K6 P6 (by decide) (by rw [e]; rfl)
  have g6p : g6 ≠ p := fun e => own_box_ne o6 P6 (by decide) (by rw [e]; rfl)
  obtain ⟨w7, hw7⟩ : ∃ w7, w6.setCell ⟨p, 1, none⟩ (.slice (some ⟨g6, 0, none⟩) (ps.length + 1) c6) = w7 := ⟨_, rfl⟩
  have t7 : Touch (fun g => g = p) w6 w7 := by rw [← hw7]; exact touch_set w6 p 1 _ rfl
  have P7 : Box w7 p 44 #[.slice (some ⟨g4, 0, none⟩) (ps.length + 1) c4, .slice (some ⟨g6, 0, none⟩) (ps.length + 1) c6] := by rw [← hw7]; exact P6.set_ 1 _
  have K7 := K6.touch t7 (fun g hg e => g4p (by have e2 : g4 = g := (by simpa [Value.ownBlock] using hg); omega))
  have O7 := own_touch o6 t7 (fun g hg e => g6p (by have e2 : g6 = g := (by simpa [Value.ownBlock] using hg); omega))
  rw [hw7]
  have T7 : Touch (fun g => g = p ∨ R.at_ g) w w7 := (T5.trans (t6.mono (fun k hk => .inr (R.vvAt _ _ hk)))).trans (t7.mono (fun k hk => .inl hk))
  have hfrom : (⟨some ⟨g4, 0, none⟩, c4, some ⟨g6, 0, none⟩, c6⟩ : SR).from_ R w.heap.size := fun g hg => by
    rcases hg with ⟨a, ha, e⟩ | ⟨a, ha, e⟩
    · cases ha; subst e; exact G4
    · cases ha; subst e; exact G6
  have hli := lowI_len ps m
  have hln : (insP ps (lowI (kvs ps) m) (m, x)).length = ps.length + 1 := insP_len _ _ _ hli
  have hnode : ∀ y ∈ insP ps (lowI (kvs ps) m) (m, x), NodeIn w w.heap.size y.2.v y.2.nd ∧ (∀ g, y.2.use g → ¬ (g = p ∨ R.at_ g)) := fun y hy => by
    rcases (insP_mem _ _ _ _).1 hy with rfl | hy
    · exact ⟨hn, fun g hg e => e.elim (hup g hg) (hu g hg)⟩
    · exact ⟨h.nodes y hy, fun g hg e => e.elim (hpp y hy g hg) (h.apart y hy g hg)⟩
  refine ⟨P6, ⟨some ⟨g4, 0, none⟩, c4, some ⟨g6, 0, none⟩, c6⟩, P7, ⟨by rw [hln]; exact K7, by rw [hln]; exact O7, fun y hy => ?_, fun y hy g hg e => ?_, ?_, by omega⟩, hfrom, T7⟩
  · exact (NV.touch (hnode y hy).1 T7 (Nat.le_refl _) (hnode y hy).2).more T7.size
  · rcases hfrom g e with e | e
    · exact (hnode y hy).2 g hg (.inr e)
    · have := NV.use_lt (hnode y hy).1 g hg
      omega
  · have hm := kvs_not ps m h.rise ht
    have e : kvs (insP ps (lowI (kvs ps) m) (m, x)) = insI (kvs ps) m := by rw [← insP_low _ _ hm]; exact insP_map _ _ _ _
    rw [e]
    exact insI_rise _ _ h.rise hm
set_option maxHeartbeats 2000000 in
theorem put_any (p lo : Nat) (R : SR) (ps : List (Int × NV)) (m : Int) (x : NV) (w : World) (hx : Box w p 44 #[R.kv ps.length, R.vv ps.length]) (h : SLN w lo R ps) (hlo : lo ≤ w.heap.size)
    (hn : NodeIn w w.heap.size x.v x.nd) (hu : ∀ g, x.use g → ¬ R.at_ g) (hup : ∀ g, x.use g → g ≠ p) (hpp : ∀ y ∈ ps, ∀ g, y.2.use g → g ≠ p) (hl : ps.length < 1000) :
    Calls Try.prog 31 #[.pointer (some ⟨p, 0, none⟩), .int .i64 m, x.v] w fun e w' =>
      (hitI (kvs ps) m = true ∧ e = .returned (.bool false) ∧ Below w.heap.size w w') ∨
      (hitI (kvs ps) m = false ∧ e = .returned (.bool true) ∧ ∃ R', Box w' p 44 #[R'.kv (ps.length + 1), R'.vv (ps.length + 1)] ∧ SLN w' lo R' (insP ps (lowI (kvs ps) m) (m, x)) ∧ R'.from_ R w.heap.size ∧ Touch (fun g => g = p ∨ R.at_ g) w w') := by
  have mixed : Try.prog.follows .mixedOrders = true := by kernel_rfl
  have hlen := h.len
  obtain ⟨Ap, np, cp, Ak, nk, ck, nd⟩ := x
  obtain ⟨w1, hw1⟩ : ∃ w1, w.alloc (.cells #[.int .i64 nd.kind, .slice Ap np cp, .slice Ak nk ck, .string nd.val] 52) = w1 := ⟨_, rfl⟩
  have x1 : Box w1 w.heap.size _ _ := hw1 ▸ heap_alloc_new _ _
  have s1 : w1.heap.size = w.heap.size + 1 := hw1 ▸ by simp
  have b1 : Below w.heap.size w w1 := hw1 ▸ (Below.refl _ _).alloc (Nat.le_refl _) _
  have hp := hx.lt
  have X1 := Lib.hid x1
  have B1 := Lib.hid b1
  have P1 := Lib.hid (hx.below b1 hp)
  have HS := Lib.hid (h.below b1)
  have H0 := Lib.hid h
  have N0 := Lib.hid hn
  have HN := Lib.hid (hn.below b1)
  have HRL := Lib.hid (fun g hg => (h.lt g hg).2)
  clear x1 b1 hx h hn
  have q0 := P1.out.cell 0
  have q1 := P1.out.cell 1
  unfold SR.kv at q0
  unfold SR.vv at q1
  simp at q0 q1
  unfold NV.v
  go_enter Try.func31, Try.ntmps31
  go_wp2_with fail
  refine (search_any R.Ak ps.length R.ck (kvs ps) m w1.heap.size w1 (by omega) HS.out.keys.ints HS.out.rise).mono ?_
  rintro e w2 ⟨rfl, nq, hq⟩
  have b2 : Below w1.heap.size w1 w2 := by rw [hq]; exact below_drewN (Below.refl _ _) nq
  have X2 := Lib.hid (X1.out.below b2 (by omega))
  have P2 := Lib.hid (P1.out.below b2 (by omega))
  have S2 := Lib.hid (HS.out.below b2)
  have N2 := Lib.hid (HN.out.below (b2.mono (by omega)))
  have B2 := Lib.hid (B1.out.trans (b2.mono (by omega)))
  have hs2 : w2.heap.size = w.heap.size + 1 := by rw [hq]; simpa using s1
  clear hq b2 hw1 q0 q1
  have q0 := P2.out.cell 0
  have q1 := P2.out.cell 1
  have p0 := P2.out.free
  unfold SR.kv at q0
  unfold SR.vv at q1
  simp at q0 q1
  obtain ⟨ht, hht⟩ : ∃ ht, hitI (kvs ps) m = ht := ⟨_, rfl⟩
  have HT := Lib.hid hht
  rw [hht]
  clear hht
  obtain ⟨i, hi⟩ : ∃ i, lowI (kvs ps) m = i := ⟨_, rfl⟩
  have hil : i ≤ ps.length := by rw [← hi]; exact lowI_len ps m
  have HI := Lib.hid hi
  rw [hi]
  clear hi
  cases ht with
  | true =>
    go_wp2
    go_ret
    exact .inl ⟨HT.out, rfl, B2.out⟩
  | false =>
    -- the key's own block
    obtain ⟨w3, hw3⟩ : ∃ w3, w2.alloc (.cells #[.int .i64 m] 2) = w3 := ⟨_, rfl⟩
    have b3 : Below w2.heap.size w2 w3 := hw3 ▸ (Below.refl w2.heap.size w2).alloc (Nat.le_refl _) _
    have y3 : Box w3 w2.heap.size 2 #[.int .i64 m] := hw3 ▸ heap_alloc_new _ _
    have s3 : w3.heap.size = w.heap.size + 2 := by rw [← hw3]; simp [hs2]
    rw [hs2] at y3
    have X3 := Lib.hid (X2.out.below b3 (by omega))
    have P3 := Lib.hid (P2.out.below b3 (by omega))
    have S3 := Lib.hid (S2.out.below b3)
    have N3 := Lib.hid (N2.out.below (b3.mono (by omega)))
    have B3 := Lib.hid (B2.out.trans (b3.mono (by omega)))
    have Y3 := Lib.hid y3
    clear b3 y3
    go_wp2_with fail
    refine (insI_any lo ps.length R.ck i (w.heap.size + 1) _ R.Ak ((kvs ps).map (Value.int .i64)) [.int .i64 m] w3 S3.out.keys (by omega) hil (by omega) Y3.out rfl (by intro u hu; simp at hu; subst hu; rfl) (kvs_one _) (fun e => by have := (S2.out.keys.lt _ e).2; omega)).mono ?_
    rintro e w4 ⟨g4, c4, rfl, o4, gr4, at4⟩
    rw [show ([.int .i64 m] : List Value) = [.int .i64 ((m, (⟨Ap, np, cp, Ak, nk, ck, nd⟩ : NV)) : Int × NV).1] from rfl, kvs_put] at o4
    have gk4 := gr4
    have gr4 : Touch (fun g => R.at_ g) w3 w4 := (Touch.of_grown gr4).mono (fun k hk => R.kvAt _ _ hk.symm)
    have kp : (R.kv ps.length).ownBlock ≠ some p := own_box_ne S3.out.keys P3.out (by decide)
    have np_ : ¬ R.at_ p := fun h => by
      rcases h with ⟨a, ha, e⟩ | ⟨a, ha, e⟩
      · exact kp (by unfold SR.kv; rw [ha, ← e]; rfl)
      · exact own_box_ne S3.out.vals P3.out (by decide) (by rw [ha, ← e]; rfl)
    have s4 : w3.heap.size ≤ w4.heap.size := gr4.size
    have P4 := Lib.hid (show Box w4 p _ _ from (gr4.block p (by omega) np_).trans P3.out)
    have X4 := Lib.hid (show Box w4 w.heap.size _ _ from (gr4.block _ (by omega) (fun h => by have := HRL.out _ h; omega)).trans X3.out)
    have V4 := Lib.hid (own_touch S3.out.vals (S := fun g => (R.kv ps.length).ownBlock = some g) ((Touch.of_grown (show w3.grownBy w4 (R.kv ps.length).ownBlock from gk4)).mono (fun k hk => hk.symm)) (fun g hg hk => own_own_ne S3.out.keys S3.out.vals (by decide) g hk hg))
    have V4p : (R.vv ps.length).ownBlock ≠ some p := own_box_ne V4.out P4.out (by decide)
    have K4 := Lib.hid (show OwnI w4 lo (some ⟨g4, 0, none⟩) (ps.length + 1) c4 _ from o4)
    have g4p : g4 ≠ p := fun e => own_box_ne o4 P4.out (by decide) (by rw [e]; rfl)
    have G4 := Lib.hid at4
    clear o4 gk4 at4 q0 q1 p0
    have f4 := P4.out.free
    have q4 := P4.out.cell 0
    simp at q4
    obtain ⟨w5, hw5⟩ : ∃ w5, w4.setCell ⟨p, 0, none⟩ (.slice (some ⟨g4, 0, none⟩) (ps.length + 1) c4) = w5 := ⟨_, rfl⟩
    have t5 : Touch (fun g => g = p) w4 w5 := by rw [← hw5]; exact touch_set w4 p 0 _ rfl
    have s5 : w5.heap.size = w4.heap.size := by rw [← hw5]; simp
    have P5 := Lib.hid (show Box w5 p _ #[.slice (some ⟨g4, 0, none⟩) (ps.length + 1) c4, R.vv ps.length] from by rw [← hw5]; exact P4.out.set_ 0 _)
    have X5 := Lib.hid (show Box w5 w.heap.size _ _ from (t5.block _ (by omega) (by omega)).trans X4.out)
    have V5 := Lib.hid (own_touch V4.out t5 (fun g hg hk => V4p (by rw [← hk]; exact hg)))
    have K5 := Lib.hid (K4.out.touch t5 (fun g hg hk => g4p (by have e : g4 = g := (by simpa [Value.ownBlock] using hg); omega)))
    go_wp2_with fail
    clear f4 q4
    have q1 := P5.out.cell 1
    have f1 := P5.out.free
    have x0 := X5.out.cell 0
    have x1 := X5.out.cell 1
    have x2 := X5.out.cell 2
    have x3 := X5.out.cell 3
    unfold SR.vv at q1
    simp at q1 x0 x1 x2 x3
    have V6 := Lib.hid (show (w5.alloc (.cells #[.int .i64 nd.kind, .slice Ap np cp, .slice Ak nk ck, .string nd.val] 52)).drew.ownsRow lo 52 4 (.slice R.Av ps.length R.cv) ps.length (nvs ps) from V5.out.alloc _)
    have Y6 := Lib.hid (show (w5.alloc (.cells #[.int .i64 nd.kind, .slice Ap np cp, .slice Ak nk ck, .string nd.val] 52)).drew.heap[w4.heap.size]? = some (.cells ([.int .i64 nd.kind, .slice Ap np cp, .slice Ak nk ck, .string nd.val] : List Value).toArray 52 (0, 0)) from by rw [← s5]; exact heap_alloc_new w5 _)
    have Z6 := Lib.hid (show (w5.alloc (.cells #[.int .i64 nd.kind, .slice Ap np cp, .slice Ak nk ck, .string nd.val] 52)).drew.heap.size = w4.heap.size + 1 from by rw [← s5]; simp)
    have VB := Lib.hid (fun g hg => (V5.out.lt g hg).2)
    have T5 := Lib.hid (show Touch (fun g => g = p ∨ R.at_ g) w w5 from ((Touch.of_below B3.out).trans (gr4.mono (fun k hk => .inr hk))).trans (t5.mono (fun k hk => .inl hk)))
    clear gr4 t5
    have hp4 : p < w4.heap.size := by omega
    have hp5 : p < w5.heap.size := by omega
    have hpn : ¬ (p = w4.heap.size) := by omega
    go_region_law (first
      | (go_simp
         refine (insN_any lo ps.length R.cv i w4.heap.size _ R.Av (nvs ps) [.int .i64 nd.kind, .slice Ap np cp, .slice Ak nk ck, .string nd.val] _ V6.out (by rw [Z6.out]; omega) hil (by omega) Y6.out rfl (fun u hu => (⟨Ap, np, cp, Ak, nk, ck, nd⟩ : NV).one u hu) (nvs_one _) (fun e => by have := VB.out _ e; omega)).mono ?_
         rintro e w6 ⟨g6, c6, rfl, o6, gr6, at6⟩
         rw [show ([.int .i64 nd.kind, .slice Ap np cp, .slice Ak nk ck, .string nd.val] : List Value) = ((m, (⟨Ap, np, cp, Ak, nk, ck, nd⟩ : NV)) : Int × NV).2.cells from rfl, nvs_put, ← HI.out] at o6
         have PF := put_fin p lo R ps m ⟨Ap, np, cp, Ak, nk, ck, nd⟩ w w5 w6 H0.out hp N0.out hu hup hpp hl HT.out g4 c4 g6 c6 T5.out P5.out (by rw [HI.out]; exact K5.out) (G4.out.elim (fun e => .inl (R.kvAt _ _ e)) (fun e => .inr (by omega))) V5.out
           ((Touch.of_below (below_drewN (((Below.refl w5.heap.size w5).alloc (Nat.le_refl _) _)) 1)).trans ((Touch.of_grown gr6).mono (fun k hk => hk.symm))) o6 (at6.elim (fun e => .inl (R.vvAt _ _ e)) (fun e => .inr (by rw [Z6.out] at e; omega)))
         have q6 := PF.1.cell 1
         have f6 := PF.1.free 1
         simp at q6))
    all_goals
      have PF := Lib.hid PF.2
      clear q1 f1 x0 x1 x2 x3 q6 f6 o6 gr6 at6
      go_wp2
      go_ret
      exact .inr ⟨HT.out, rfl, PF.out⟩
end Go.Proofs.Ytopaobjpcafjlaa
