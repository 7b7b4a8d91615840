/- The texts FP1, FP2, PO1, PO2, joined. -/
import Derived.Test.YtohjfcfcopbmoaaGreatDoorQZ1
import Derived.Test.YtohjfcfcopbmoaaGreatDoorQD5
import Derived.Test.YtohjfcfcopbmoaaGreatDoorQK1
import Derived.Test.YtohjfcfcopbmoaaGreatDoorQY1

/- Plain facts: the parts are connected, no two of them together, and they hold every vertex. -/
namespace Go.Proofs.YtohjfcfcopbmoaaGreatDoor

theorem listM_pos {m : Nat} (hm : m < 65536) (h0 : m ≠ 0) : 0 < (listM m).length := by
  obtain ⟨h1, h2, _⟩ := leastM_spec h0 hm
  exact List.length_pos_of_mem ((listM_mem m _).2 ⟨leastM m, h1, h2, rfl⟩)
theorem listM_setP {m n : Nat} (hb : ∀ u, m.testBit u = true → u < n) : SetP (listM m) n :=
  SetP.mk (listM_set m).pairwise (fun x hx => by
    obtain ⟨i, _, h2, rfl⟩ := (listM_mem m x).1 hx
    have := hb i h2
    omega)
theorem maskTo_listM {m n : Nat} (hm : m < 65536) (hn : n ≤ 16) (hb : ∀ u, m.testBit u = true → u < n) : maskTo (listM m) (listM m).length = m := by
  have hs := listM_setP hb
  refine list_inj ?_ hm (set_list hn hs)
  exact maskTo_lt (n := n) (fun j hj => ⟨(hs j hj).1, (hs j hj).2.1⟩) (by omega) _ (Nat.le_refl _)
/-- Whether a set, told as a mask, is connected. -/
theorem conn_listM {L : List (List Int)} (hG : GraphP L) {m : Nat} (hm : m < 65536) (h0 : m ≠ 0) (hb : ∀ u, m.testBit u = true → u < L.length) : connB L (listM m) = true ↔ reachN (nearB L) (bitS m) (leastM m) = m := by
  have hs := listM_setP hb
  have hp := listM_pos hm h0
  have hk := conn_mask hG hs hp
  rw [maskTo_listM hm hG.1.2 hb, nearM_eq hG] at hk
  unfold connB setB
  rw [decide_eq_true hG, decide_eq_true hs, decide_eq_true hp]
  simp only [Bool.true_and, decide_eq_true_iff]
  exact hk.symm
section
variable {A : Nat → Nat → Bool} {n : Nat}
theorem compN_in (hn : n ≤ 16) {v u : Nat} (h : (compN A n v).testBit u = true) : u < n := (allS_iff _ _).1 ((compN_bit hn v u).1 h).mem
theorem part_reach (hA : ∀ a b, A a b = A b a) (hn : n ≤ 16) {v : Nat} (hv : v < n) : reachN A (bitS (compN A n v)) (leastM (compN A n v)) = compN A n v := by
  obtain ⟨h1, h2, h3⟩ := leastM_spec (compN_ne (A := A) hn hv) (compN_lt A n v)
  have hr := (compN_bit hn v _).1 h2
  refine bit_ext fun u => ?_
  rw [reachN_iff (bitS_lt (compN_lt _ _ _))]
  rw [reach_within (A := A) (S := allS n) (S' := bitS (compN A n v)) (fun u hu => (allS_iff _ _).2 (compN_in hn hu)) (fun a b ha hb hab => ?_) h2 u]
  · rw [compN_bit hn]
    exact ⟨fun h => hr.trans h, fun h => (hr.symm hA).trans h⟩
  · have h4 := (compN_bit hn v a).1 ha
    exact (compN_bit hn v b).2 (h4.trans ⟨1, hb, a, ⟨rfl, h4.mem⟩, hab⟩)
theorem reach_mono {S S' : Nat → Bool} (hsub : ∀ u, S' u = true → S u = true) {v u : Nat} (h : Reach A S' v u) : Reach A S v u := by
  obtain ⟨k, h⟩ := h
  refine ⟨k, ?_⟩
  induction k generalizing u with
  | zero => exact ⟨h.1, hsub _ h.2⟩
  | succ k ih => obtain ⟨hs, w, hw, ha⟩ := h; exact ⟨hsub _ hs, w, ih hw, ha⟩
theorem two_parts (hA : ∀ a b, A a b = A b a) (hn : n ≤ 16) {v w : Nat} (hv : v < n) (hw : w < n) (hhv : headN A n v = v) (hhw : headN A n w = w) (hne : v ≠ w) : reachN A (bitS (compN A n v ||| compN A n w)) (leastM (compN A n v ||| compN A n w)) ≠ compN A n v ||| compN A n w := by
  intro e
  have hl : compN A n v ||| compN A n w < 65536 := Nat.or_lt_two_pow (n := 16) (compN_lt _ _ _) (compN_lt _ _ _)
  have hS := bitS_lt hl
  have hin : ∀ u, bitS (compN A n v ||| compN A n w) u = true → allS n u = true := fun u hu => by
    unfold bitS at hu
    rw [Nat.testBit_or, Bool.or_eq_true] at hu
    rw [allS_iff]
    rcases hu with h | h
    · exact compN_in hn h
    · exact compN_in hn h
  have hkey : ∀ u, (compN A n v ||| compN A n w).testBit u = true → Reach A (allS n) (leastM (compN A n v ||| compN A n w)) u := fun u hu => by
    rw [← e] at hu
    exact reach_mono hin ((reachN_iff hS u).1 hu)
  have h1 := hkey v (by rw [Nat.testBit_or, compN_self hn hv]; rfl)
  have h2 := hkey w (by rw [Nat.testBit_or, compN_self hn hw]; simp)
  have h3 := headN_eq hA hn ((h1.symm hA).trans h2)
  rw [hhv, hhw] at h3
  exact hne h3.symm
theorem listM_bits (m : Nat) : (listM m).length = bitsTo m 16 := listTo_bits m 16
/-- How many vertices have a part that begins below k. -/
noncomputable def cntH (A : Nat → Nat → Bool) (n k : Nat) : Nat := sumTo (fun u => if headN A n u < k then 1 else 0) n
theorem compN_many (hA : ∀ a b, A a b = A b a) (hn : n ≤ 16) {v : Nat} (_hv : v < n) (hh : headN A n v = v) : (listM (compN A n v)).length = sumTo (fun u => if headN A n u = v then 1 else 0) n := by
  rw [listM_bits, bitsTo_sum, show (16 : Nat) = n + (16 - n) from by omega, sumTo_split _ n _ (fun i h1 h2 => ?_)]
  · refine sumTo_congr (fun u hu => ?_)
    have hiff : (compN A n v).testBit u = true ↔ headN A n u = v := by
      rw [compN_bit hn]
      constructor
      · intro h; rw [headN_eq hA hn h, hh]
      · intro h
        have := (headN_spec hA hn hu).2.1
        rw [h] at this
        exact this.symm hA
    by_cases h : headN A n u = v
    · rw [if_pos (hiff.2 h), if_pos h]
    · rw [if_neg (fun h' => h (hiff.1 h')), if_neg h]
  · rw [if_neg]
    intro h
    have := compN_in (A := A) hn h
    omega
theorem heads_sum (hA : ∀ a b, A a b = A b a) (hn : n ≤ 16) : ∀ k, k ≤ n → ((headsTo A n k).map (fun v => (listM (compN A n v)).length)).sum = cntH A n k := by
  intro k
  induction k with
  | zero =>
    intro _
    show _ = cntH A n 0
    unfold cntH
    rw [sumTo_zero (fun i _ => by simp)]
    rfl
  | succ k ih =>
    intro hk
    have hstep : cntH A n (k + 1) = cntH A n k + sumTo (fun u => if headN A n u = k then 1 else 0) n := by
      unfold cntH
      rw [← sumTo_add]
      refine sumTo_congr (fun u _ => ?_)
      by_cases h1 : headN A n u < k
      · rw [if_pos h1, if_pos (by omega), if_neg (by omega)]
      · by_cases h2 : headN A n u = k
        · rw [if_neg h1, if_pos (by omega), if_pos h2]
        · rw [if_neg h1, if_neg (by omega), if_neg h2]
    by_cases hh : headN A n k = k
    · rw [headsTo_succ hh, List.map_append, List.sum_append, ih (by omega), hstep, ← compN_many hA hn (by omega) hh]
      simp
    · have hsame : headsTo A n (k + 1) = headsTo A n k := headsTo_same (by omega) (fun v h1 h2 e => by
        have e2 : v = k := by omega
        rw [e2] at e
        exact hh e)
      rw [hsame, ih (by omega), hstep]
      rw [sumTo_zero (fun u hu => if_neg (fun e => ?_)), Nat.add_zero]
      have := (headN_spec hA hn hu).2.2.1
      rw [e] at this
      exact hh this
theorem parts_sum (hA : ∀ a b, A a b = A b a) (hn : n ≤ 16) : ((headsTo A n n).map (fun v => (listM (compN A n v)).length)).sum = n := by
  rw [heads_sum hA hn n (Nat.le_refl _)]
  unfold cntH
  have : ∀ m, sumTo (fun _ => 1) m = m := fun m => by
    induction m with
    | zero => rfl
    | succ m ih => simp [sumTo, ih]
  rw [sumTo_congr (g := fun _ => 1) (fun u hu => if_pos ?_), this]
  have := (headN_spec hA hn hu).1
  omega
theorem headsTo_mem {k v : Nat} : v ∈ headsTo A n k ↔ v < k ∧ headN A n v = v := by
  unfold headsTo
  rw [List.mem_filter, List.mem_range, beq_iff_eq]
theorem headsTo_nodup (k : Nat) : (headsTo A n k).Nodup := List.nodup_range.filter _
end

/-- Sorted, without repeating: what is in one of both. -/
def bothM (xs ys : List Int) : Nat := pm (fun v => hasB xs (v : Int) || hasB ys (v : Int))
def bothL (xs ys : List Int) : List Int := listM (bothM xs ys)
theorem bothM_lt (xs ys : List Int) : bothM xs ys < 65536 := pm_lt _
theorem hasB_listM {m u : Nat} (hu : u < 16) : hasB (listM m) (u : Int) = m.testBit u := by
  rw [Bool.eq_iff_iff, hasB_mem, listM_mem]
  constructor
  · rintro ⟨i, _, h2, h3⟩
    obtain rfl : i = u := by omega
    exact h2
  · intro h; exact ⟨u, hu, h, rfl⟩
theorem both_masks {a b : Nat} (ha : a < 65536) (hb : b < 65536) : bothM (listM a) (listM b) = a ||| b := by
  refine bit_ext fun u => ?_
  unfold bothM
  rw [pm_bit, Nat.testBit_or, Bool.and_eq_true, decide_eq_true_iff]
  constructor
  · rintro ⟨h1, h2⟩; rwa [hasB_listM h1, hasB_listM h1] at h2
  · intro h
    have hu : u < 16 := by
      rw [Bool.or_eq_true] at h
      rcases h with h | h
      · exact bitS_lt ha u h
      · exact bitS_lt hb u h
    exact ⟨hu, by rw [hasB_listM hu, hasB_listM hu]; exact h⟩

section
variable {L : List (List Int)}
theorem partsL_heads (hG : GraphP L) : partsL L = (headsTo (nearB L) L.length L.length).map (fun v => listM (compN (nearB L) L.length v)) := by
  unfold partsL
  rw [if_pos hG, ← headsTo_map, List.map_map]
  rfl
theorem partsL_at (hG : GraphP L) {i : Nat} (hi : i < (partsL L).length) : ∃ v, v < L.length ∧ headN (nearB L) L.length v = v ∧ nthR (partsL L) i = listM (compN (nearB L) L.length v) ∧ (headsTo (nearB L) L.length L.length)[i]? = some v := by
  rw [partsL_heads hG] at hi ⊢
  rw [List.length_map] at hi
  have hm := headsTo_mem.1 (List.getElem_mem hi)
  exact ⟨_, hm.1, hm.2, by simp [nthR, hi], by simp [hi]⟩
theorem part_conn (hG : GraphP L) {i : Nat} (hi : i < (partsL L).length) : connB L (nthR (partsL L) i) = true := by
  have hz := hG.1
  obtain ⟨v, h1, h2, h3, _⟩ := partsL_at hG hi
  rw [h3, conn_listM hG (compN_lt _ _ _) (compN_ne hz.2 h1) (fun u hu => compN_in hz.2 hu)]
  exact part_reach (nearB_symm hG) hz.2 h1
theorem parts_apart (hG : GraphP L) {k i : Nat} (hk : k < i) (hi : i < (partsL L).length) : connB L (bothL (nthR (partsL L) k) (nthR (partsL L) i)) = false := by
  have hz := hG.1
  obtain ⟨v, h1, h2, h3, h4⟩ := partsL_at hG (i := k) (by omega)
  obtain ⟨x, k1, k2, k3, k4⟩ := partsL_at hG hi
  have hne : v ≠ x := by
    intro e
    rw [← e] at k4
    have := (List.getElem?_inj (by have := (List.getElem?_eq_some_iff.1 h4).1; exact this) (headsTo_nodup _)).1 (h4.trans k4.symm)
    omega
  rw [h3, k3]
  unfold bothL
  rw [both_masks (compN_lt _ _ _) (compN_lt _ _ _)]
  rw [Bool.eq_false_iff]
  intro hc
  have hl : compN (nearB L) L.length v ||| compN (nearB L) L.length x < 65536 := Nat.or_lt_two_pow (n := 16) (compN_lt _ _ _) (compN_lt _ _ _)
  refine two_parts (nearB_symm hG) hz.2 h1 k1 h2 k2 hne ((conn_listM hG hl ?_ ?_).1 hc)
  · intro e
    have h5 := compN_self (A := nearB L) hz.2 h1
    have h6 : (compN (nearB L) L.length v ||| compN (nearB L) L.length x).testBit v = true := by rw [Nat.testBit_or, h5]; rfl
    rw [e] at h6
    simp at h6
  · intro u hu
    rw [Nat.testBit_or, Bool.or_eq_true] at hu
    rcases hu with h | h
    · exact compN_in hz.2 h
    · exact compN_in hz.2 h
/-- How many vertices the first k parts have. -/
noncomputable def partsSum (L : List (List Int)) (k : Nat) : Nat := (((partsL L).take k).map List.length).sum
theorem partsSum_succ {k : Nat} (hk : k < (partsL L).length) : partsSum L (k + 1) = partsSum L k + (nthR (partsL L) k).length := by
  unfold partsSum
  rw [List.take_succ_eq_append_getElem hk, List.map_append, List.sum_append, nthR_eq hk]
  simp
theorem partsSum_all (hG : GraphP L) : partsSum L (partsL L).length = L.length := by
  unfold partsSum
  rw [List.take_length, partsL_heads hG, List.map_map]
  exact parts_sum (nearB_symm hG) hG.1.2
theorem partsSum_le (hG : GraphP L) (k : Nat) (hk : k ≤ (partsL L).length) : partsSum L k ≤ L.length := by
  rw [← partsSum_all hG]
  have : ∀ d, k + d ≤ (partsL L).length → partsSum L k ≤ partsSum L (k + d) := by
    intro d
    induction d with
    | zero => intro _; exact Nat.le_refl _
    | succ d ih =>
      intro h
      have h1 := ih (by omega)
      have h2 := partsSum_succ (L := L) (k := k + d) (by omega)
      rw [show k + (d + 1) = k + d + 1 from rfl, h2]
      omega
  have h := this ((partsL L).length - k) (by omega)
  rwa [show k + ((partsL L).length - k) = (partsL L).length from by omega] at h
end

end Go.Proofs.YtohjfcfcopbmoaaGreatDoor

/- Walks: what is in one of both; a graph drawn. -/
namespace Go.Proofs.YtohjfcfcopbmoaaGreatDoor
open Go.RowKit

theorem bothM_bit (xs ys : List Int) (k : Nat) (hk : k < 16) : (bothM xs ys).testBit k = (hasB xs (k : Int) || hasB ys (k : Int)) := by
  unfold bothM
  rw [pm_bit, decide_eq_true hk]
  rfl

theorem lit_one (w : World) (x : Int) (T : TypeId) : ∀ j u, ([Value.int .i64 x] : List Value)[j]? = some u → (w.alloc (.cells #[.int .i64 x] T)).cell? ((⟨w.heap.size, 0, none⟩ : Addr).add j) = some u := by
  intro j u hj
  match j, hj with
  | 0, hj => simp at hj; subst hj; simp [Addr.add]
theorem one_one (x : Int) : ∀ u ∈ ([Value.int .i64 x] : List Value), u.oneCell' = true := by
  intro u hu; simp at hu; subst hu; rfl

end Go.Proofs.YtohjfcfcopbmoaaGreatDoor

/- Plain facts: the least path down the distances. -/
namespace Go.Proofs.YtohjfcfcopbmoaaGreatDoor

/-- Where one stands after some steps down from u, whose distance is d. -/
def curD (M R : Nat → Nat) (d u : Nat) : Nat → Nat
  | 0 => u
  | i + 1 => leastM (M (curD M R d u i) &&& R (d - 1 - i))
/-- The way of the first i steps. -/
def wayD (M R : Nat → Nat) (d u i : Nat) : List Int := (List.range (i + 1)).map (fun j => (curD M R d u j : Int))
theorem wayD_len (M R : Nat → Nat) (d u i : Nat) : (wayD M R d u i).length = i + 1 := by simp [wayD]
theorem wayD_zero (M R : Nat → Nat) (d u : Nat) : wayD M R d u 0 = [(u : Int)] := rfl
theorem wayD_succ (M R : Nat → Nat) (d u i : Nat) : wayD M R d u (i + 1) = wayD M R d u i ++ [(curD M R d u (i + 1) : Int)] := by
  unfold wayD
  rw [List.range_succ, List.map_append]
  rfl
theorem wayD_nth (M R : Nat → Nat) (d u : Nat) {i j : Nat} (hj : j ≤ i) : nth (wayD M R d u i) j = (curD M R d u j : Int) := by
  rw [nth_eq (by rw [wayD_len]; omega)]
  simp [wayD]
theorem curD_congr {M R R' : Nat → Nat} {d u : Nat} (h : ∀ k, k < d → R k = R' k) : ∀ i, i ≤ d → curD M R d u i = curD M R' d u i := by
  intro i
  induction i with
  | zero => intro _; rfl
  | succ i ih =>
    intro hi
    show leastM _ = leastM _
    rw [ih (by omega), h _ (by omega)]
theorem wayD_congr {M R R' : Nat → Nat} {d u : Nat} (h : ∀ k, k < d → R k = R' k) (i : Nat) (hi : i ≤ d) : wayD M R d u i = wayD M R' d u i := by
  unfold wayD
  apply List.map_congr_left
  intro j hj
  rw [List.mem_range] at hj
  rw [curD_congr h j (by omega)]

section
variable {A : Nat → Nat → Bool} {S : Nat → Bool} {v : Nat} {M : Nat → Nat}
theorem curD_step (hA : ∀ a b, A a b = A b a) (hM : ∀ i, M i < 65536) (hMA : ∀ a b, A a b = (M a).testBit b) (hS : ∀ u, S u = true → u < 16) {d u : Nat} (h : AtD A S v d u) : ∀ i, i ≤ d → AtD A S v (d - i) (curD M (ringN A S v) d u i) ∧ (i < d → M (curD M (ringN A S v) d u i) &&& ringN A S v (d - 1 - i) ≠ 0) := by
  have hne : ∀ (k x : Nat), AtD A S v (k + 1) x → M x &&& ringN A S v k ≠ 0 := by
    intro k x hx e
    obtain ⟨y, hy, hyx⟩ := atD_pred hx
    have h1 : (M x &&& ringN A S v k).testBit y = true := by
      rw [Nat.testBit_and, ← hMA, hA, hyx, (ringN_bit hS k y).2 hy]; rfl
    rw [e] at h1
    simp at h1
  intro i
  induction i with
  | zero =>
    intro _
    refine ⟨h, fun h0 => ?_⟩
    refine hne _ _ ?_
    rw [show d - 1 - 0 + 1 = d from by omega]
    exact h
  | succ i ih =>
    intro hi
    obtain ⟨h1, h2⟩ := ih (by omega)
    have h3 := h2 (by omega)
    have hlt : M (curD M (ringN A S v) d u i) &&& ringN A S v (d - 1 - i) < 65536 := Nat.lt_of_le_of_lt Nat.and_le_left (hM _)
    obtain ⟨h4, h5, _⟩ := leastM_spec h3 hlt
    rw [Nat.testBit_and, Bool.and_eq_true] at h5
    have h6 : AtD A S v (d - 1 - i) (curD M (ringN A S v) d u (i + 1)) := (ringN_bit hS _ _).1 h5.2
    refine ⟨by rw [show d - (i + 1) = d - 1 - i from by omega]; exact h6, fun h7 => ?_⟩
    refine hne _ _ ?_
    rw [show d - 1 - (i + 1) + 1 = d - 1 - i from by omega]
    exact h6
theorem curD_near (hA : ∀ a b, A a b = A b a) (hM : ∀ i, M i < 65536) (hMA : ∀ a b, A a b = (M a).testBit b) (hS : ∀ u, S u = true → u < 16) {d u : Nat} (h : AtD A S v d u) {i : Nat} (hi : i < d) : A (curD M (ringN A S v) d u i) (curD M (ringN A S v) d u (i + 1)) = true := by
  have h3 := (curD_step hA hM hMA hS h i (by omega)).2 hi
  have hlt : M (curD M (ringN A S v) d u i) &&& ringN A S v (d - 1 - i) < 65536 := Nat.lt_of_le_of_lt Nat.and_le_left (hM _)
  obtain ⟨_, h5, _⟩ := leastM_spec h3 hlt
  rw [Nat.testBit_and, Bool.and_eq_true] at h5
  rw [hMA]
  exact h5.1
end

/-- The first of a set that is in another mask, by place. -/
theorem first_least {m R k : Nat} (hm : m < 65536) (hk : k < (listM m).length) (hR : R.testBit (nth (listM m) k).toNat = true) (hn : ∀ j, j < k → R.testBit (nth (listM m) j).toNat = false) : leastM (m &&& R) = (nth (listM m) k).toNat := by
  obtain ⟨x, hx16, hxb, hxe⟩ := (listM_mem m _).1 (nth_mem hk)
  rw [← hxe, Int.toNat_natCast] at hR ⊢
  have hb : (m &&& R).testBit x = true := by rw [Nat.testBit_and, hxb, hR]; rfl
  have h0 : m &&& R ≠ 0 := fun e => by rw [e] at hb; simp at hb
  obtain ⟨h1, h2, h3⟩ := leastM_spec h0 (Nat.lt_of_le_of_lt Nat.and_le_left hm)
  rcases Nat.lt_trichotomy (leastM (m &&& R)) x with hlt | heq | hgt
  · exfalso
    rw [Nat.testBit_and, Bool.and_eq_true] at h2
    obtain ⟨j, hj, e⟩ := List.getElem_of_mem ((listM_mem m _).2 ⟨leastM (m &&& R), h1, h2.1, rfl⟩)
    have hjk : j < k := by
      rcases Nat.lt_trichotomy j k with h | h | h
      · exact h
      · subst h
        rw [nth_eq hj, e] at hxe
        omega
      · have := List.pairwise_iff_getElem.1 (listM_set m).pairwise k j hk hj h
        rw [e, ← nth_eq hk, ← hxe] at this
        omega
    have := hn j hjk
    rw [nth_eq hj, e, Int.toNat_natCast, h2.2] at this
    cases this
  · exact heq
  · have := h3 x hgt
    rw [hb] at this
    cases this
/-- .. and there is one, if the two meet. -/
theorem first_some {m R : Nat} (hm : m < 65536) (h : m &&& R ≠ 0) : ∃ k, k < (listM m).length ∧ R.testBit (nth (listM m) k).toNat = true := by
  obtain ⟨h1, h2, _⟩ := leastM_spec h (Nat.lt_of_le_of_lt Nat.and_le_left hm)
  rw [Nat.testBit_and, Bool.and_eq_true] at h2
  obtain ⟨j, hj, e⟩ := List.getElem_of_mem ((listM_mem m _).2 ⟨_, h1, h2.1, rfl⟩)
  exact ⟨j, hj, by rw [nth_eq hj, e, Int.toNat_natCast]; exact h2.2⟩

/-- Whether there is a path. -/
noncomputable def poB (L : List (List Int)) (x y : Int) : Bool := decide (GraphP L) && inB x 0 ((L.length : Int) - 1) && inB y 0 ((L.length : Int) - 1) && decide (0 ≤ dOf (nearB L) (allS L.length) y.toNat x.toNat)
/-- What PathOf answers. -/
noncomputable def poL (L : List (List Int)) (x y : Int) : List Int :=
  if poB L x y = true then wayD (rowM L) (ringN (nearB L) (allS L.length) y.toNat) (dOf (nearB L) (allS L.length) y.toNat x.toNat).toNat x.toNat (dOf (nearB L) (allS L.length) y.toNat x.toNat).toNat else []
theorem poL_no {L : List (List Int)} {x y : Int} (h : poB L x y = false) : poL L x y = [] := by unfold poL; rw [if_neg (by rw [h]; exact Bool.false_ne_true)]
theorem poL_small (L : List (List Int)) (x y : Int) : (poL L x y).length ≤ 1048576 := by
  unfold poL
  split
  · rename_i h
    rw [wayD_len]
    simp only [poB, Bool.and_eq_true, decide_eq_true_iff] at h
    have h1 := h.1.1.1.1
    have := dOf_lt (A := nearB L) (v := y.toNat) (S := allS L.length) (n := L.length) (fun u hu => (allS_iff _ _).1 hu) x.toNat
    omega
  · simp

end Go.Proofs.YtohjfcfcopbmoaaGreatDoor

/- Walks: the least path, of the model. -/
namespace Go.Proofs.YtohjfcfcopbmoaaGreatDoor
open Go.RowKit

/-- A slice's length. -/
def lenP : Value → Nat
  | .slice _ n _ => n
  | _ => 0
theorem wayD_i64 {M R : Nat → Nat} {d u : Nat} {i : Nat} (h : ∀ j, j ≤ i → curD M R d u j < 16) : ∀ x ∈ wayD M R d u i, I64 x := by
  intro x hx
  unfold wayD at hx
  rw [List.mem_map] at hx
  obtain ⟨j, hj, rfl⟩ := hx
  rw [List.mem_range] at hj
  have := h j (by omega)
  unfold I64; omega

end Go.Proofs.YtohjfcfcopbmoaaGreatDoor
