/- Plain facts on the reading of a node: its parts, one behind the other; the kids, nine bytes each. -/
import Derived.Test.YtjmlpekaehfeeaaNodeI
import Derived.Test.YtjmlpekaehfeeaaPart
namespace Go.Proofs.Ytjmlpekaehfeeaa
set_option maxRecDepth 20000
open Go.RowKit

/-- a part that is there: the count, the piece, what stands behind it. -/
theorem part_drop (bs ys : List Int) (at_ : Nat) (e : Int) (each : Nat) (hr : ∀ z ∈ bs, 0 ≤ z ∧ z ≤ 255) (h : part bs at_ each = (ys, e)) (he : 0 ≤ e) :
    at_ < bs.length ∧ bs.drop at_ = bs[at_]?.getD 0 :: ys ++ bs.drop e.toNat ∧ (ys.length : Int) = each * (bs[at_]?.getD 0) ∧ e = at_ + 1 + ys.length ∧ e ≤ bs.length := by
  unfold part at h
  split at h
  · cases h; omega
  · rename_i h0
    simp only [Int.toNat_natCast] at h
    have hat : at_ < bs.length := by omega
    have hx : 0 ≤ bs[at_]?.getD 0 ∧ bs[at_]?.getD 0 ≤ 255 := by rw [List.getElem?_eq_getElem hat]; exact hr _ (List.getElem_mem hat)
    split at h
    · cases h; omega
    · rename_i h1
      obtain ⟨x, hxx⟩ : ∃ x : Nat, bs[at_]?.getD 0 = x := ⟨(bs[at_]?.getD 0).toNat, by omega⟩
      rw [hxx] at h h1 ⊢
      simp only [Int.toNat_natCast, Prod.mk.injEq] at h
      obtain ⟨h2, h3⟩ := h
      have hle : at_ + 1 + each * x ≤ bs.length := by
        have : ((at_ + 1 + each * x : Nat) : Int) ≤ bs.length := by push_cast; omega
        omega
      have hyl : ys.length = each * x := by rw [← h2]; simp; omega
      have hce : ((each * x : Nat) : Int) = (each : Int) * (x : Int) := by push_cast; rfl
      refine ⟨hat, ?_, by rw [hyl, hce], by rw [← h3, hyl, hce], by omega⟩
      have he' : e.toNat = at_ + 1 + each * x := by omega
      rw [he', List.drop_eq_getElem_cons hat, ← h2]
      have hg : bs[at_] = (x : Int) := by rw [← hxx, List.getElem?_eq_getElem hat]; rfl
      rw [hg, List.cons_append]
      congr 1
      conv => lhs; rw [← List.take_append_drop (each * x) (bs.drop (at_ + 1))]
      rw [List.drop_drop]
/-- a part that stands there is read. -/
theorem part_of (bs ys rest : List Int) (at_ each : Nat) (x : Nat) (hat : at_ < bs.length) (h : bs.drop at_ = (x : Int) :: (ys ++ rest)) (hl : ys.length = each * x) : part bs at_ each = (ys, ((at_ + 1 + each * x : Nat) : Int)) := by
  have hlen : (bs.drop at_).length = 1 + ys.length + rest.length := by rw [h]; simp; omega
  rw [List.length_drop] at hlen
  have hx : bs[at_]?.getD 0 = x := by
    have h1 : (bs.drop at_)[0]? = some (x : Int) := by rw [h]; rfl
    rw [List.getElem?_drop, Nat.add_zero] at h1
    rw [h1]; rfl
  have hce : ((each * x : Nat) : Int) = (each : Int) * (x : Int) := by push_cast; rfl
  unfold part
  simp only [Int.toNat_natCast]
  rw [if_neg (by omega), hx, if_neg (by omega)]
  have hd : bs.drop (at_ + 1) = ys ++ rest := by
    have h1 : (bs.drop at_).drop 1 = ys ++ rest := by rw [h]; rfl
    rwa [List.drop_drop] at h1
  rw [hd]
  simp only [Int.toNat_natCast]
  rw [List.take_left' hl]
  simp only [Prod.mk.injEq, true_and]
  push_cast
  rfl
theorem part_end (bs : List Int) (at_ : Int) (each : Nat) : (part bs at_ each).2 = -1 ∨ at_ + 1 ≤ (part bs at_ each).2 ∧ 0 ≤ at_ ∨ (part bs at_ each).2 < at_ + 1 := by
  rcases Int.lt_or_le (part bs at_ each).2 (at_ + 1) with h | h
  · exact .inr (.inr h)
  · unfold part at h ⊢
    split
    · exact .inl rfl
    · split
      · exact .inl rfl
      · rename_i h0 h1
        rw [if_neg h0, if_neg h1] at h
        exact .inr (.inl ⟨h, by omega⟩)
theorem part_neg (bs : List Int) (each : Nat) : part bs (-1) each = ([], -1) := if_pos (Or.inl (by omega))
theorem part_range (bs : List Int) (hr : ∀ z ∈ bs, 0 ≤ z ∧ z ≤ 255) (at_ : Int) (each : Nat) : -1 ≤ (part bs at_ each).2 ∧ (part bs at_ each).2 ≤ bs.length := by
  unfold part
  split
  · simp
  · split
    · simp
    · rename_i h0 h1
      refine ⟨?_, by omega⟩
      have hat : at_.toNat < bs.length := by omega
      have hx : 0 ≤ bs[at_.toNat]?.getD 0 := by rw [List.getElem?_eq_getElem hat]; exact (hr _ (List.getElem_mem hat)).1
      have := Int.mul_nonneg (Int.natCast_nonneg each) hx
      show -1 ≤ at_ + 1 + _
      omega
theorem part_le (bs : List Int) (at_ : Int) (each : Nat) : (part bs at_ each).1.length ≤ bs.length := by
  unfold part
  split
  · simp
  · split
    · simp
    · simp only [List.length_take, List.length_drop]; omega

/-- the i-th kid that is written. -/
def kidOf (kb : List Int) (i : Nat) : Int × Int := (kb[9 * i]?.getD 0, leVal ((kb.drop (9 * i + 1)).take 8))
def kidsTo (kb : List Int) (q : Nat) : List (Int × Int) := (List.range q).map (kidOf kb)
def chunkOk (kb : List Int) (i : Nat) : Prop := kb[9 * i + 8]?.getD 0 ≤ (127 : Int)
theorem kidsTo_len (kb : List Int) (q : Nat) : (kidsTo kb q).length = q := by simp [kidsTo]
theorem kidsTo_step (kb : List Int) (q : Nat) : kidsTo kb (q + 1) = kidsTo kb q ++ [kidOf kb q] := by simp [kidsTo, List.range_succ]
theorem kidOf_drop (kb : List Int) (i : Nat) : kidOf kb (i + 1) = kidOf (kb.drop 9) i := by
  unfold kidOf
  rw [List.getElem?_drop, List.drop_drop, show 9 * (i + 1) = 9 + 9 * i by omega, show 9 + 9 * i + 1 = 9 + (9 * i + 1) by omega]
theorem kidsTo_drop (kb : List Int) (q : Nat) : kidsTo kb (q + 1) = kidOf kb 0 :: kidsTo (kb.drop 9) q := by
  unfold kidsTo
  rw [List.range_succ_eq_map, List.map_cons, List.map_map]
  congr 1
  apply List.map_congr_left
  intro i _
  exact kidOf_drop kb i
/-- the kids that are read are written as they were. -/
theorem kidsTo_back (q : Nat) (kb : List Int) (hr : ∀ z ∈ kb, 0 ≤ z ∧ z ≤ 255) (hl : kb.length = 9 * q) (hc : ∀ i, i < q → chunkOk kb i) : (kidsTo kb q).flatMap kidBytes = kb ∧ ∀ k ∈ kidsTo kb q, 0 ≤ k.2 ∧ k.2 ≤ 9223372036854775807 := by
  induction q generalizing kb with
  | zero =>
    have e : kb = [] := List.eq_nil_of_length_eq_zero (by omega)
    subst e
    exact ⟨rfl, by simp [kidsTo]⟩
  | succ q ih =>
    have h0 := hc 0 (by omega)
    obtain ⟨h1, h2⟩ := ih (kb.drop 9) (fun z hz => hr z (List.mem_of_mem_drop hz)) (by simp; omega) (fun i hi => by
      have := hc (i + 1) (by omega)
      unfold chunkOk at this ⊢
      rw [List.getElem?_drop, show 9 + (9 * i + 8) = 9 * (i + 1) + 8 by omega]
      exact this)
    rw [kidsTo_drop]
    have hcl : ((kb.drop 1).take 8).length = 8 := by simp; omega
    have hcr : ∀ z ∈ (kb.drop 1).take 8, 0 ≤ z ∧ z ≤ 255 := fun z hz => hr z (List.mem_of_mem_drop (List.mem_of_mem_take hz))
    have h7 : ((kb.drop 1).take 8)[7]?.getD 0 ≤ (127 : Int) := by
      unfold chunkOk at h0
      rw [List.getElem?_take_of_lt (by omega), List.getElem?_drop]
      exact h0
    have hb := bytes_of_back _ hcr hcl h7
    have hw := leW_yes _ hcr hcl h7
    refine ⟨?_, ?_⟩
    · rw [List.flatMap_cons, h1]
      have hk : kidBytes (kidOf kb 0) = kb.take 9 := by
        unfold kidBytes kidOf
        show kb[0]?.getD 0 % 256 :: nameBytes (leVal ((kb.drop 1).take 8)) = _
        rw [hb]
        have hkb : 0 < kb.length := by omega
        have hz := hr kb[0] (List.getElem_mem hkb)
        rw [List.getElem?_eq_getElem hkb]
        rcases kb with _ | ⟨z, r⟩
        · simp at hkb
        · simp at hz ⊢
          omega
      rw [hk, List.take_append_drop]
    · intro k hk
      rcases List.mem_cons.1 hk with rfl | hk
      · exact hw.2
      · exact h2 k hk
/-- what is written of kids is read as they. -/
theorem kidsTo_of (ks : List (Int × Int)) (h : ∀ k ∈ ks, ((0 ≤ k.1 ∧ k.1 ≤ 15) ∧ 1 ≤ k.2) ∧ k.2 ≤ 9223372036854775807) : (ks.flatMap kidBytes).length = 9 * ks.length ∧ kidsTo (ks.flatMap kidBytes) ks.length = ks ∧ ∀ i, i < ks.length → chunkOk (ks.flatMap kidBytes) i := by
  induction ks with
  | nil => exact ⟨rfl, rfl, fun i hi => by simp at hi⟩
  | cons x r ih =>
    have hx := h x (by simp)
    obtain ⟨h1, h2, h3⟩ := ih fun k hk => h k (by simp [hk])
    obtain ⟨hb1, hb2, hb3⟩ := back_of_bytes x.2 (by omega)
    have lx : (kidBytes x).length = 9 := by unfold kidBytes; simp [hb2]
    have hd : ((x :: r).flatMap kidBytes).drop 9 = r.flatMap kidBytes := by rw [List.flatMap_cons, List.drop_left' lx]
    refine ⟨by rw [List.flatMap_cons, List.length_append, lx, h1]; simp; omega, ?_, ?_⟩
    · rw [List.length_cons, kidsTo_drop, hd, h2]
      congr 1
      unfold kidOf
      rw [List.flatMap_cons]
      unfold kidBytes
      have e1 : (((x.1 % 256 :: nameBytes x.2) ++ r.flatMap kidBytes).drop (9 * 0 + 1)).take 8 = nameBytes x.2 := by
        show (nameBytes x.2 ++ r.flatMap kidBytes).take 8 = _
        exact List.take_left' hb2
      have e2 : x.1 % 256 = x.1 := by omega
      show (x.1 % 256, _) = x
      have e1' : leVal ((((x.1 % 256 :: nameBytes x.2) ++ r.flatMap (fun k => k.1 % 256 :: nameBytes k.2)).drop (9 * 0 + 1)).take 8) = x.2 := by
        have : (((x.1 % 256 :: nameBytes x.2) ++ r.flatMap (fun k => k.1 % 256 :: nameBytes k.2)).drop (9 * 0 + 1)).take 8 = nameBytes x.2 := by
          show (nameBytes x.2 ++ _).take 8 = _
          exact List.take_left' hb2
        rw [this, hb1]
      rw [e1', e2]
    · intro i hi
      rcases i with _ | i
      · unfold chunkOk
        rw [List.flatMap_cons, List.getElem?_append_left (by omega)]
        unfold kidBytes
        show (nameBytes x.2)[7]?.getD 0 ≤ 127
        exact hb3
      · have := h3 i (by simpa using hi)
        unfold chunkOk at this ⊢
        rw [← hd, List.getElem?_drop] at this
        rw [show 9 * (i + 1) + 8 = 9 + (9 * i + 8) by omega]
        exact this

theorem part_some (bs ys : List Int) (at_ e : Int) (each : Nat) (h : part bs at_ each = (ys, e)) (he : 0 ≤ e) : 0 ≤ at_ := by
  rcases Int.lt_or_le at_ 0 with h0 | h0
  · have : part bs at_ each = ([], -1) := if_pos (Or.inl h0)
    rw [this] at h
    cases h
    omega
  · exact h0
/-- all parts are there, up to the end. -/
theorem parts_all (bs r1 r2 r3 : List Int) (e1 e2 : Int) (hr : ∀ z ∈ bs, 0 ≤ z ∧ z ≤ 255) (h1 : part bs ((1 : Nat) : Int) 1 = (r1, e1)) (h2 : part bs e1 1 = (r2, e2)) (h3 : part bs e2 9 = (r3, (bs.length : Int))) (hl : 0 < bs.length) :
    ∃ q : Nat, bs = bs[0]?.getD 0 :: (r1.length : Int) :: (r1 ++ ((r2.length : Int) :: (r2 ++ ((q : Int) :: r3)))) ∧ r3.length = 9 * q := by
  have p2 := part_some _ _ _ _ _ h3 (by omega)
  have p1 := part_some _ _ _ _ _ h2 p2
  obtain ⟨k1, rfl⟩ : ∃ k : Nat, e1 = k := ⟨e1.toNat, by omega⟩
  obtain ⟨k2, rfl⟩ : ∃ k : Nat, e2 = k := ⟨e2.toNat, by omega⟩
  obtain ⟨a1, a2, a3, a4, a5⟩ := part_drop bs r1 1 k1 1 hr h1 (by omega)
  obtain ⟨b1, b2, b3, b4, b5⟩ := part_drop bs r2 k1 k2 1 hr h2 (by omega)
  obtain ⟨c1, c2, c3, c4, c5⟩ := part_drop bs r3 k2 bs.length 9 hr h3 (by omega)
  simp only [Int.toNat_natCast] at a2 b2 c2
  rw [List.drop_length, List.append_nil] at c2
  have hx : ∀ k : Nat, (0 : Int) ≤ bs[k]?.getD 0 := fun k => (mem_at bs hr k).1
  have h0 : bs = bs[0]?.getD 0 :: bs.drop 1 := by
    rcases bs with _ | ⟨z, r⟩
    · simp at hl
    · rfl
  refine ⟨(bs[k2]?.getD 0).toNat, ?_, by have := hx k2; omega⟩
  have e1 : (r1.length : Int) = bs[1]?.getD 0 := by omega
  have e2 : (r2.length : Int) = bs[k1]?.getD 0 := by omega
  have e3 : ((bs[k2]?.getD 0).toNat : Int) = bs[k2]?.getD 0 := by have := hx k2; omega
  rw [e1, e2, e3]
  conv => lhs; rw [h0, a2, b2, c2]
  simp
/-- the node that is read of the parts. -/
def nodeOf (bs r1 r2 r3 : List Int) (q : Nat) : MNode := ⟨bs[0]?.getD 0, r1, kidsTo r3 q, strOfNums r2⟩
theorem read_back (bs r1 r2 r3 : List Int) (q : Nat) (hr : ∀ z ∈ bs, 0 ≤ z ∧ z ≤ 255) (h : bs = bs[0]?.getD 0 :: (r1.length : Int) :: (r1 ++ ((r2.length : Int) :: (r2 ++ ((q : Int) :: r3))))) (h3 : r3.length = 9 * q) (hc : ∀ i, i < q → chunkOk r3 i) :
    rawBytes (nodeOf bs r1 r2 r3 q) = bs ∧ NodeWf (nodeOf bs r1 r2 r3 q) := by
  have m : ∀ z, z ∈ (bs[0]?.getD 0 :: (r1.length : Int) :: (r1 ++ ((r2.length : Int) :: (r2 ++ ((q : Int) :: r3))))) → 0 ≤ z ∧ z ≤ 255 := fun z hz => hr z (by rw [h]; exact hz)
  have b0 := m (bs[0]?.getD 0) (by simp)
  have b1 := m (r1.length : Int) (by simp)
  have b2 := m (r2.length : Int) (by simp)
  have bq := m (q : Int) (by simp)
  have c1 : ∀ z ∈ r1, 0 ≤ z ∧ z ≤ 255 := fun z hz => m z (by simp [hz])
  have c2 : ∀ z ∈ r2, 0 ≤ z ∧ z ≤ 255 := fun z hz => m z (by simp [hz])
  have c3 : ∀ z ∈ r3, 0 ≤ z ∧ z ≤ 255 := fun z hz => m z (by simp [hz])
  obtain ⟨k1, k2⟩ := kidsTo_back q r3 c3 h3 hc
  have e1 : r1.map (· % 256) = r1 := by
    conv => rhs; rw [← List.map_id r1]
    apply List.map_congr_left
    intro z hz
    have := c1 z hz
    simp; omega
  refine ⟨?_, fun k hk => (k2 k hk).2⟩
  unfold rawBytes nodeOf
  simp only [kidsTo_len, sb_str r2 c2, strOfNums_size, k1, e1]
  conv => rhs; rw [h]
  have d0 : bs[0]?.getD 0 % 256 = bs[0]?.getD 0 := by omega
  have d1 : (r1.length : Int) % 256 = r1.length := by omega
  have d2 : (r2.length : Int) % 256 = r2.length := by omega
  have d3 : (q : Int) % 256 = q := by omega
  rw [d0, d1, d2, d3]
  simp
/-- what a right node writes is read part by part. -/
theorem read_of (nd : MNode) (bs : List Int) (h : nodeOk nd = true) (hw : NodeWf nd) (he : nodeBytes nd = bs) :
    ∃ e1 e2 r3, part bs ((1 : Nat) : Int) 1 = (nd.path, e1) ∧ part bs e1 1 = (sb nd.val, e2) ∧ part bs e2 9 = (r3, (bs.length : Int)) ∧ bs ≠ [] ∧ bs[0]?.getD 0 = nd.kind ∧ r3.length = 9 * nd.kids.length ∧ kidsTo r3 nd.kids.length = nd.kids ∧ ∀ i, i < nd.kids.length → chunkOk r3 i := by
  have pa := (isPath_iff _).1 (nodeOk_parts nd h).1
  have ka := nodeOk_kind nd h
  have va := nodeOk_val nd h
  have ca := (nodeOk_parts nd h).2.1
  have na := kidsOk_len _ ca
  obtain ⟨k1, k2, k3⟩ := kidsTo_of nd.kids (fun k hk => ⟨kidsOk_mem _ ca k hk, hw k hk⟩)
  have hsb := sb_len nd.val
  have hbs : bs = nd.kind :: (nd.path.length : Int) :: (nd.path ++ ((nd.val.size : Int) :: (sb nd.val ++ ((nd.kids.length : Int) :: nd.kids.flatMap kidBytes)))) := by
    rw [← he]
    unfold nodeBytes
    rw [if_pos h]
    unfold rawBytes
    rw [map_mod nd.path pa.2]
    have d0 : nd.kind % 256 = nd.kind := by omega
    have d1 : (nd.path.length : Int) % 256 = nd.path.length := by omega
    have d2 : (nd.val.size : Int) % 256 = nd.val.size := by omega
    have d3 : (nd.kids.length : Int) % 256 = nd.kids.length := by omega
    rw [d0, d1, d2, d3]
    simp
  have hl : bs.length = 4 + nd.path.length + nd.val.size + 9 * nd.kids.length := by rw [hbs]; simp [hsb, k1]; omega
  have D1 : bs.drop 1 = (nd.path.length : Int) :: (nd.path ++ ((nd.val.size : Int) :: (sb nd.val ++ ((nd.kids.length : Int) :: nd.kids.flatMap kidBytes)))) := by rw [hbs]; rfl
  have D2 : bs.drop (2 + nd.path.length) = (nd.val.size : Int) :: (sb nd.val ++ ((nd.kids.length : Int) :: nd.kids.flatMap kidBytes)) := by
    rw [show 2 + nd.path.length = 1 + (1 + nd.path.length) by omega, ← List.drop_drop, D1, show 1 + nd.path.length = nd.path.length + 1 by omega, List.drop_succ_cons, List.drop_left]
  have D3 : bs.drop (3 + nd.path.length + nd.val.size) = (nd.kids.length : Int) :: (nd.kids.flatMap kidBytes ++ []) := by
    rw [show 3 + nd.path.length + nd.val.size = (2 + nd.path.length) + (nd.val.size + 1) by omega, ← List.drop_drop, D2, List.drop_succ_cons, ← hsb, List.drop_left, List.append_nil]
  have q1 := part_of bs _ _ 1 1 nd.path.length (by omega) D1 (by omega)
  have q2 := part_of bs _ _ (2 + nd.path.length) 1 nd.val.size (by omega) D2 (by omega)
  have q3 := part_of bs _ _ (3 + nd.path.length + nd.val.size) 9 nd.kids.length (by omega) D3 (by omega)
  have t1 : 1 + 1 + 1 * nd.path.length = 2 + nd.path.length := by omega
  have t2 : 2 + nd.path.length + 1 + 1 * nd.val.size = 3 + nd.path.length + nd.val.size := by omega
  have t3 : 3 + nd.path.length + nd.val.size + 1 + 9 * nd.kids.length = bs.length := by omega
  rw [t1] at q1
  rw [t2] at q2
  rw [t3] at q3
  exact ⟨_, _, _, q1, q2, q3, by rw [hbs]; simp, by rw [hbs]; rfl, k1, k2, k3⟩
/-- what the parts say of a reading. -/
theorem none_empty (bs : List Int) (hl : bs.length = 0) : NodeRead bs node0 false := .inr ⟨rfl, rfl, fun nd h1 h2 h3 => by
  obtain ⟨_, _, _, _, _, _, h, _⟩ := read_of nd bs h1 h2 h3
  exact h (List.eq_nil_of_length_eq_zero hl)⟩
section
variable {bs r1 r2 r3 : List Int} {e1 e2 e3 : Int} {q : Nat}
theorem none_end (p1 : part bs ((1 : Nat) : Int) 1 = (r1, e1)) (p2 : part bs e1 1 = (r2, e2)) (p3 : part bs e2 9 = (r3, e3)) (he : e3 ≠ bs.length) : NodeRead bs node0 false := .inr ⟨rfl, rfl, fun nd h1 h2 h3 => by
  obtain ⟨f1, f2, r, q1, q2, q3, _⟩ := read_of nd bs h1 h2 h3
  rw [p1] at q1
  cases q1
  rw [p2] at q2
  cases q2
  rw [p3] at q3
  cases q3
  exact he rfl⟩
theorem parts_are (p1 : part bs ((1 : Nat) : Int) 1 = (r1, e1)) (p2 : part bs e1 1 = (r2, e2)) (p3 : part bs e2 9 = (r3, (bs.length : Int))) (hl : r3.length = 9 * q) (nd : MNode) (h1 : nodeOk nd = true) (h2 : NodeWf nd) (h3 : nodeBytes nd = bs) :
    nodeOf bs r1 r2 r3 q = nd ∧ ∀ i, i < q → chunkOk r3 i := by
  obtain ⟨f1, f2, r, q1, q2, q3, _, k0, kl, kk, kc⟩ := read_of nd bs h1 h2 h3
  rw [p1] at q1
  cases q1
  rw [p2] at q2
  cases q2
  rw [p3] at q3
  cases q3
  obtain rfl : q = nd.kids.length := by omega
  refine ⟨?_, kc⟩
  unfold nodeOf
  rw [k0, kk, str_sb]
theorem none_chunk (p1 : part bs ((1 : Nat) : Int) 1 = (r1, e1)) (p2 : part bs e1 1 = (r2, e2)) (p3 : part bs e2 9 = (r3, (bs.length : Int))) (hl : r3.length = 9 * q) (i : Nat) (hi : i < q) (hc : ¬ chunkOk r3 i) : NodeRead bs node0 false :=
  .inr ⟨rfl, rfl, fun nd h1 h2 h3 => hc ((parts_are p1 p2 p3 hl nd h1 h2 h3).2 i hi)⟩
theorem none_bad (p1 : part bs ((1 : Nat) : Int) 1 = (r1, e1)) (p2 : part bs e1 1 = (r2, e2)) (p3 : part bs e2 9 = (r3, (bs.length : Int))) (hl : r3.length = 9 * q) (hb : nodeOk (nodeOf bs r1 r2 r3 q) = false) : NodeRead bs node0 false :=
  .inr ⟨rfl, rfl, fun nd h1 h2 h3 => by rw [(parts_are p1 p2 p3 hl nd h1 h2 h3).1, h1] at hb; cases hb⟩
end
theorem yes_read (bs r1 r2 r3 : List Int) (q : Nat) (hr : ∀ z ∈ bs, 0 ≤ z ∧ z ≤ 255) (h : bs = bs[0]?.getD 0 :: (r1.length : Int) :: (r1 ++ ((r2.length : Int) :: (r2 ++ ((q : Int) :: r3))))) (h3 : r3.length = 9 * q) (hc : ∀ i, i < q → chunkOk r3 i) (ok : nodeOk (nodeOf bs r1 r2 r3 q) = true) :
    NodeRead bs (nodeOf bs r1 r2 r3 q) true := by
  obtain ⟨k1, k2⟩ := read_back bs r1 r2 r3 q hr h h3 hc
  exact .inl ⟨rfl, ok, k2, by unfold nodeBytes; rw [if_pos ok]; exact k1⟩
end Go.Proofs.Ytjmlpekaehfeeaa
