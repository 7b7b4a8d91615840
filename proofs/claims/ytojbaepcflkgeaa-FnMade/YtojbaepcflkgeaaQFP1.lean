/- The texts FP1, SO1, SO2, joined. -/
import Derived.Test.YtojbaepcflkgeaaQZ1
import Derived.Test.YtojbaepcflkgeaaZ3
import Derived.Test.YtojbaepcflkgeaaQH0
import Derived.Test.YtojbaepcflkgeaaQW2
import Derived.Test.YtojbaepcflkgeaaQGrid
import Derived.BigRegion

/- Plain facts: the parts are connected, no two of them together, and they hold every vertex. -/
namespace Go.Proofs.Ytojbaepcflkgeaa

theorem listM_pos {m : Nat} (hm : m < 65536) (h0 : m ≠ 0) : 0 < (listM m).length := by
  obtain ⟨h1, h2, _⟩ := leastM_spec h0 hm
  exact List.length_pos_of_mem ((listM_mem m _).2 ⟨leastM m, h1, h2, rfl⟩)
theorem listM_setP {m n : Nat} (hb : ∀ u, m.testBit u = true → u < n) : SetP (listM m) n :=
  SetP.mk (listM_set m).pairwise (fun x hx => by
    obtain ⟨i, _, h2, rfl⟩ := (listM_mem m x).1 hx
    have := hb i h2
    omega)
theorem maskTo_listM {m n : Nat} (hm : m < 65536) (hn : n ≤ 16) (hb : ∀ u, m.testBit u = true → u < n) : maskTo (listM m) (listM m).length = m := by
  have hs := listM_setP hb
  refine list_inj ?_ hm (set_list hn hs)
  exact maskTo_lt (n := n) (fun j hj => ⟨(hs j hj).1, (hs j hj).2.1⟩) (by omega) _ (Nat.le_refl _)
/-- Whether a set, told as a mask, is connected. -/
theorem conn_listM {L : List (List Int)} (hG : GraphP L) {m : Nat} (hm : m < 65536) (h0 : m ≠ 0) (hb : ∀ u, m.testBit u = true → u < L.length) : connB L (listM m) = true ↔ reachN (nearB L) (bitS m) (leastM m) = m := by
  have hs := listM_setP hb
  have hp := listM_pos hm h0
  have hk := conn_mask hG hs hp
  rw [maskTo_listM hm hG.1.2 hb, nearM_eq hG] at hk
  unfold connB setB
  rw [decide_eq_true hG, decide_eq_true hs, decide_eq_true hp]
  simp only [Bool.true_and, decide_eq_true_iff]
  exact hk.symm
section
variable {A : Nat → Nat → Bool} {n : Nat}
theorem compN_in (hn : n ≤ 16) {v u : Nat} (h : (compN A n v).testBit u = true) : u < n := (allS_iff _ _).1 ((compN_bit hn v u).1 h).mem
theorem part_reach (hA : ∀ a b, A a b = A b a) (hn : n ≤ 16) {v : Nat} (hv : v < n) : reachN A (bitS (compN A n v)) (leastM (compN A n v)) = compN A n v := by
  obtain ⟨h1, h2, h3⟩ := leastM_spec (compN_ne (A := A) hn hv) (compN_lt A n v)
  have hr := (compN_bit hn v _).1 h2
  refine bit_ext fun u => ?_
  rw [reachN_iff (bitS_lt (compN_lt _ _ _))]
  rw [reach_within (A := A) (S := allS n) (S' := bitS (compN A n v)) (fun u hu => (allS_iff _ _).2 (compN_in hn hu)) (fun a b ha hb hab => ?_) h2 u]
  · rw [compN_bit hn]
    exact ⟨fun h => hr.trans h, fun h => (hr.symm hA).trans h⟩
  · have h4 := (compN_bit hn v a).1 ha
    exact (compN_bit hn v b).2 (h4.trans ⟨1, hb, a, ⟨rfl, h4.mem⟩, hab⟩)
theorem reach_mono {S S' : Nat → Bool} (hsub : ∀ u, S' u = true → S u = true) {v u : Nat} (h : Reach A S' v u) : Reach A S v u := by
  obtain ⟨k, h⟩ := h
  refine ⟨k, ?_⟩
  induction k generalizing u with
  | zero => exact ⟨h.1, hsub _ h.2⟩
  | succ k ih => obtain ⟨hs, w, hw, ha⟩ := h; exact ⟨hsub _ hs, w, ih hw, ha⟩
theorem two_parts (hA : ∀ a b, A a b = A b a) (hn : n ≤ 16) {v w : Nat} (hv : v < n) (hw : w < n) (hhv : headN A n v = v) (hhw : headN A n w = w) (hne : v ≠ w) : reachN A (bitS (compN A n v ||| compN A n w)) (leastM (compN A n v ||| compN A n w)) ≠ compN A n v ||| compN A n w := by
  intro e
  have hl : compN A n v ||| compN A n w < 65536 := Nat.or_lt_two_pow (n := 16) (compN_lt _ _ _) (compN_lt _ _ _)
  have hS := bitS_lt hl
  have hin : ∀ u, bitS (compN A n v ||| compN A n w) u = true → allS n u = true := fun u hu => by
    unfold bitS at hu
    rw [Nat.testBit_or, Bool.or_eq_true] at hu
    rw [allS_iff]
    rcases hu with h | h
    · exact compN_in hn h
    · exact compN_in hn h
  have hkey : ∀ u, (compN A n v ||| compN A n w).testBit u = true → Reach A (allS n) (leastM (compN A n v ||| compN A n w)) u := fun u hu => by
    rw [← e] at hu
    exact reach_mono hin ((reachN_iff hS u).1 hu)
  have h1 := hkey v (by rw [Nat.testBit_or, compN_self hn hv]; rfl)
  have h2 := hkey w (by rw [Nat.testBit_or, compN_self hn hw]; simp)
  have h3 := headN_eq hA hn ((h1.symm hA).trans h2)
  rw [hhv, hhw] at h3
  exact hne h3.symm
theorem listM_bits (m : Nat) : (listM m).length = bitsTo m 16 := listTo_bits m 16
/-- How many vertices have a part that begins below k. -/
noncomputable def cntH (A : Nat → Nat → Bool) (n k : Nat) : Nat := sumTo (fun u => if headN A n u < k then 1 else 0) n
theorem compN_many (hA : ∀ a b, A a b = A b a) (hn : n ≤ 16) {v : Nat} (_hv : v < n) (hh : headN A n v = v) : (listM (compN A n v)).length = sumTo (fun u => if headN A n u = v then 1 else 0) n := by
  rw [listM_bits, bitsTo_sum, show (16 : Nat) = n + (16 - n) from by omega, sumTo_split _ n _ (fun i h1 h2 => ?_)]
  · refine sumTo_congr (fun u hu => ?_)
    have hiff : (compN A n v).testBit u = true ↔ headN A n u = v := by
      rw [compN_bit hn]
      constructor
      · intro h; rw [headN_eq hA hn h, hh]
      · intro h
        have := (headN_spec hA hn hu).2.1
        rw [h] at this
        exact this.symm hA
    by_cases h : headN A n u = v
    · rw [if_pos (hiff.2 h), if_pos h]
    · rw [if_neg (fun h' => h (hiff.1 h')), if_neg h]
  · rw [if_neg]
    intro h
    have := compN_in (A := A) hn h
    omega
theorem heads_sum (hA : ∀ a b, A a b = A b a) (hn : n ≤ 16) : ∀ k, k ≤ n → ((headsTo A n k).map (fun v => (listM (compN A n v)).length)).sum = cntH A n k := by
  intro k
  induction k with
  | zero =>
    intro _
    show _ = cntH A n 0
    unfold cntH
    rw [sumTo_zero (fun i _ => by simp)]
    rfl
  | succ k ih =>
    intro hk
    have hstep : cntH A n (k + 1) = cntH A n k + sumTo (fun u => if headN A n u = k then 1 else 0) n := by
      unfold cntH
      rw [← sumTo_add]
      refine sumTo_congr (fun u _ => ?_)
      by_cases h1 : headN A n u < k
      · rw [if_pos h1, if_pos (by omega), if_neg (by omega)]
      · by_cases h2 : headN A n u = k
        · rw [if_neg h1, if_pos (by omega), if_pos h2]
        · rw [if_neg h1, if_neg (by omega), if_neg h2]
    by_cases hh : headN A n k = k
    · rw [headsTo_succ hh, List.map_append, List.sum_append, ih (by omega), hstep, ← compN_many hA hn (by omega) hh]
      simp
    · have hsame : headsTo A n (k + 1) = headsTo A n k := headsTo_same (by omega) (fun v h1 h2 e => by
        have e2 : v = k := by omega
        rw [e2] at e
        exact hh e)
      rw [hsame, ih (by omega), hstep]
      rw [sumTo_zero (fun u hu => if_neg (fun e => ?_)), Nat.add_zero]
      have := (headN_spec hA hn hu).2.2.1
      rw [e] at this
      exact hh this
theorem parts_sum (hA : ∀ a b, A a b = A b a) (hn : n ≤ 16) : ((headsTo A n n).map (fun v => (listM (compN A n v)).length)).sum = n := by
  rw [heads_sum hA hn n (Nat.le_refl _)]
  unfold cntH
  have : ∀ m, sumTo (fun _ => 1) m = m := fun m => by
    induction m with
    | zero => rfl
    | succ m ih => simp [sumTo, ih]
  rw [sumTo_congr (g := fun _ => 1) (fun u hu => if_pos ?_), this]
  have := (headN_spec hA hn hu).1
  omega
theorem headsTo_mem {k v : Nat} : v ∈ headsTo A n k ↔ v < k ∧ headN A n v = v := by
  unfold headsTo
  rw [List.mem_filter, List.mem_range, beq_iff_eq]
theorem headsTo_nodup (k : Nat) : (headsTo A n k).Nodup := List.nodup_range.filter _
end

/-- Sorted, without repeating: what is in one of both. -/
def bothM (xs ys : List Int) : Nat := pm (fun v => hasB xs (v : Int) || hasB ys (v : Int))
def bothL (xs ys : List Int) : List Int := listM (bothM xs ys)
theorem bothM_lt (xs ys : List Int) : bothM xs ys < 65536 := pm_lt _
theorem hasB_listM {m u : Nat} (hu : u < 16) : hasB (listM m) (u : Int) = m.testBit u := by
  rw [Bool.eq_iff_iff, hasB_mem, listM_mem]
  constructor
  · rintro ⟨i, _, h2, h3⟩
    obtain rfl : i = u := by omega
    exact h2
  · intro h; exact ⟨u, hu, h, rfl⟩
theorem both_masks {a b : Nat} (ha : a < 65536) (hb : b < 65536) : bothM (listM a) (listM b) = a ||| b := by
  refine bit_ext fun u => ?_
  unfold bothM
  rw [pm_bit, Nat.testBit_or, Bool.and_eq_true, decide_eq_true_iff]
  constructor
  · rintro ⟨h1, h2⟩; rwa [hasB_listM h1, hasB_listM h1] at h2
  · intro h
    have hu : u < 16 := by
      rw [Bool.or_eq_true] at h
      rcases h with h | h
      · exact bitS_lt ha u h
      · exact bitS_lt hb u h
    exact ⟨hu, by rw [hasB_listM hu, hasB_listM hu]; exact h⟩

section
variable {L : List (List Int)}
theorem partsL_heads (hG : GraphP L) : partsL L = (headsTo (nearB L) L.length L.length).map (fun v => listM (compN (nearB L) L.length v)) := by
  unfold partsL
  rw [if_pos hG, ← headsTo_map, List.map_map]
  rfl
theorem partsL_at (hG : GraphP L) {i : Nat} (hi : i < (partsL L).length) : ∃ v, v < L.length ∧ headN (nearB L) L.length v = v ∧ nthR (partsL L) i = listM (compN (nearB L) L.length v) ∧ (headsTo (nearB L) L.length L.length)[i]? = some v := by
  rw [partsL_heads hG] at hi ⊢
  rw [List.length_map] at hi
  have hm := headsTo_mem.1 (List.getElem_mem hi)
  exact ⟨_, hm.1, hm.2, by simp [nthR, hi], by simp [hi]⟩
theorem part_conn (hG : GraphP L) {i : Nat} (hi : i < (partsL L).length) : connB L (nthR (partsL L) i) = true := by
  have hz := hG.1
  obtain ⟨v, h1, h2, h3, _⟩ := partsL_at hG hi
  rw [h3, conn_listM hG (compN_lt _ _ _) (compN_ne hz.2 h1) (fun u hu => compN_in hz.2 hu)]
  exact part_reach (nearB_symm hG) hz.2 h1
theorem parts_apart (hG : GraphP L) {k i : Nat} (hk : k < i) (hi : i < (partsL L).length) : connB L (bothL (nthR (partsL L) k) (nthR (partsL L) i)) = false := by
  have hz := hG.1
  obtain ⟨v, h1, h2, h3, h4⟩ := partsL_at hG (i := k) (by omega)
  obtain ⟨x, k1, k2, k3, k4⟩ := partsL_at hG hi
  have hne : v ≠ x := by
    intro e
    rw [← e] at k4
    have := (List.getElem?_inj (by have := (List.getElem?_eq_some_iff.1 h4).1; exact this) (headsTo_nodup _)).1 (h4.trans k4.symm)
    omega
  rw [h3, k3]
  unfold bothL
  rw [both_masks (compN_lt _ _ _) (compN_lt _ _ _)]
  rw [Bool.eq_false_iff]
  intro hc
  have hl : compN (nearB L) L.length v ||| compN (nearB L) L.length x < 65536 := Nat.or_lt_two_pow (n := 16) (compN_lt _ _ _) (compN_lt _ _ _)
  refine two_parts (nearB_symm hG) hz.2 h1 k1 h2 k2 hne ((conn_listM hG hl ?_ ?_).1 hc)
  · intro e
    have h5 := compN_self (A := nearB L) hz.2 h1
    have h6 : (compN (nearB L) L.length v ||| compN (nearB L) L.length x).testBit v = true := by rw [Nat.testBit_or, h5]; rfl
    rw [e] at h6
    simp at h6
  · intro u hu
    rw [Nat.testBit_or, Bool.or_eq_true] at hu
    rcases hu with h | h
    · exact compN_in hz.2 h
    · exact compN_in hz.2 h
/-- How many vertices the first k parts have. -/
noncomputable def partsSum (L : List (List Int)) (k : Nat) : Nat := (((partsL L).take k).map List.length).sum
theorem partsSum_succ {k : Nat} (hk : k < (partsL L).length) : partsSum L (k + 1) = partsSum L k + (nthR (partsL L) k).length := by
  unfold partsSum
  rw [List.take_succ_eq_append_getElem hk, List.map_append, List.sum_append, nthR_eq hk]
  simp
theorem partsSum_all (hG : GraphP L) : partsSum L (partsL L).length = L.length := by
  unfold partsSum
  rw [List.take_length, partsL_heads hG, List.map_map]
  exact parts_sum (nearB_symm hG) hG.1.2
theorem partsSum_le (hG : GraphP L) (k : Nat) (hk : k ≤ (partsL L).length) : partsSum L k ≤ L.length := by
  rw [← partsSum_all hG]
  have : ∀ d, k + d ≤ (partsL L).length → partsSum L k ≤ partsSum L (k + d) := by
    intro d
    induction d with
    | zero => intro _; exact Nat.le_refl _
    | succ d ih =>
      intro h
      have h1 := ih (by omega)
      have h2 := partsSum_succ (L := L) (k := k + d) (by omega)
      rw [show k + (d + 1) = k + d + 1 from rfl, h2]
      omega
  have h := this ((partsL L).length - k) (by omega)
  rwa [show k + ((partsL L).length - k) = (partsL L).length from by omega] at h
end

end Go.Proofs.Ytojbaepcflkgeaa

/- Plain facts: the two sides of a graph. -/
namespace Go.Proofs.Ytojbaepcflkgeaa
open Go.RowKit

/-- The i-th vertex that begins a part. -/
noncomputable def hdN (L : List (List Int)) (i : Nat) : Nat := (headsTo (nearB L) L.length L.length).getD i 0
/-- How many parts there are. -/
noncomputable def hdM (L : List (List Int)) : Nat := (headsTo (nearB L) L.length L.length).length
/-- The side of a vertex. -/
noncomputable def sideV (L : List (List Int)) (v : Nat) : Int := dOf (nearB L) (allS L.length) (headN (nearB L) L.length v) v % 2
/-- All sides. -/
noncomputable def sideL (L : List (List Int)) : List Int := (List.range L.length).map (sideV L)
/-- No two neighbours have one side. -/
def ApartP (L : List (List Int)) : Prop := ∀ u v, u < L.length → v < L.length → adjB L u v = true → sideV L u ≠ sideV L v
open Classical in
noncomputable def soB (L : List (List Int)) : Bool := decide (GraphP L ∧ ApartP L)
/-- What SidesOf answers. -/
noncomputable def soL (L : List (List Int)) : List Int := if soB L = true then sideL L else []
open Classical in
theorem soB_no {L : List (List Int)} (h : ¬ (GraphP L ∧ ApartP L)) : soB L = false := by unfold soB; exact decide_eq_false h
open Classical in
theorem soB_yes {L : List (List Int)} (h : GraphP L) (h' : ApartP L) : soB L = true := by unfold soB; exact decide_eq_true ⟨h, h'⟩
theorem soL_no {L : List (List Int)} (h : soB L = false) : soL L = [] := by unfold soL; rw [if_neg (by rw [h]; exact Bool.false_ne_true)]
theorem soL_yes {L : List (List Int)} (h : soB L = true) : soL L = sideL L := by unfold soL; rw [if_pos h]
theorem sideL_len (L : List (List Int)) : (sideL L).length = L.length := by simp [sideL]
theorem sideL_nth {L : List (List Int)} {v : Nat} (h : v < L.length) : nth (sideL L) v = sideV L v := by
  unfold nth sideL
  rw [List.getD_eq_getElem?_getD, List.getElem?_map, List.getElem?_range h]
  rfl
theorem sideV_rng (L : List (List Int)) (v : Nat) : 0 ≤ sideV L v ∧ sideV L v < 2 := by unfold sideV; omega
open Classical in
theorem soL_small (L : List (List Int)) : (soL L).length ≤ 1048576 := by
  cases h : soB L with
  | false => rw [soL_no h]; simp
  | true =>
    rw [soL_yes h, sideL_len]
    unfold soB at h
    have := (decide_eq_true_iff.1 h).1.1
    omega
theorem hdN_mem {L : List (List Int)} {i : Nat} (hi : i < hdM L) : hdN L i < L.length ∧ headN (nearB L) L.length (hdN L i) = hdN L i := by
  have : hdN L i ∈ headsTo (nearB L) L.length L.length := by
    unfold hdN
    unfold hdM at hi
    rw [List.getD_eq_getElem?_getD, List.getElem?_eq_getElem hi]
    exact List.getElem_mem hi
  unfold headsTo at this
  rw [List.mem_filter, List.mem_range, beq_iff_eq] at this
  exact this
theorem partsL_eq {L : List (List Int)} (hG : GraphP L) : partsL L = (headsTo (nearB L) L.length L.length).map (fun v => listM (compN (nearB L) L.length v)) := by
  unfold partsL
  rw [if_pos hG, ← headsTo_map, List.map_map]
  rfl
theorem partsL_len {L : List (List Int)} (hG : GraphP L) : (partsL L).length = hdM L := by rw [partsL_eq hG, List.length_map]; rfl
theorem partsL_nth {L : List (List Int)} (hG : GraphP L) {i : Nat} (hi : i < hdM L) : nthR (partsL L) i = listM (compN (nearB L) L.length (hdN L i)) := by
  unfold hdM at hi
  rw [partsL_eq hG]
  unfold nthR hdN
  rw [List.getD_eq_getElem?_getD, List.getD_eq_getElem?_getD, List.getElem?_map, List.getElem?_eq_getElem hi]
  rfl
theorem hdM_le (L : List (List Int)) : hdM L ≤ L.length := headsTo_len _ _ _
theorem head_all {L : List (List Int)} (hG : GraphP L) {v : Nat} (hv : v < L.length) : ∃ i, i < hdM L ∧ headN (nearB L) L.length v = hdN L i := by
  obtain ⟨_, _, h3, h4⟩ := headN_spec (nearB_symm hG) hG.1.2 hv
  have : headN (nearB L) L.length v ∈ headsTo (nearB L) L.length L.length := by
    unfold headsTo
    rw [List.mem_filter, List.mem_range, beq_iff_eq]
    exact ⟨h4, h3⟩
  obtain ⟨i, hi, e⟩ := List.getElem_of_mem this
  refine ⟨i, hi, ?_⟩
  unfold hdN
  rw [List.getD_eq_getElem?_getD, List.getElem?_eq_getElem hi, ← e]
  rfl
theorem comp_in {L : List (List Int)} (hG : GraphP L) {i v : Nat} (hi : i < hdM L) (h : (compN (nearB L) L.length (hdN L i)).testBit v = true) : v < L.length ∧ headN (nearB L) L.length v = hdN L i ∧ ∃ k, AtD (nearB L) (allS L.length) (hdN L i) k v := by
  have hr := (compN_bit hG.1.2 _ _).1 h
  obtain ⟨h1, h2⟩ := hdN_mem hi
  refine ⟨(allS_iff _ _).1 hr.mem, ?_, reach_at.1 hr⟩
  rw [headN_eq (nearB_symm hG) hG.1.2 hr, h2]
theorem part_at {L : List (List Int)} (hG : GraphP L) {i k : Nat} (hi : i < hdM L) (hk : k < (nthR (partsL L) i).length) : ∃ v : Nat, nth (nthR (partsL L) i) k = (v : Int) ∧ v < L.length ∧ headN (nearB L) L.length v = hdN L i ∧ 0 ≤ dOf (nearB L) (allS L.length) (hdN L i) v ∧ dOf (nearB L) (allS L.length) (hdN L i) v < 16 := by
  rw [partsL_nth hG hi] at hk ⊢
  obtain ⟨v, _, hb, e⟩ := (listM_mem _ _).1 (nth_mem hk)
  obtain ⟨h1, h2, d, hd⟩ := comp_in hG hi hb
  refine ⟨v, e.symm, h1, h2, dOf_nonneg.2 ⟨d, hd⟩, ?_⟩
  have := dOf_lt (A := nearB L) (S := allS L.length) (v := hdN L i) (n := L.length) (fun u hu => (allS_iff _ _).1 hu) v
  have := hG.1.2
  omega
theorem part_all {L : List (List Int)} (hG : GraphP L) {i v : Nat} (hi : i < hdM L) (hv : v < L.length) (h : headN (nearB L) L.length v = hdN L i) : ∃ k, k < (nthR (partsL L) i).length ∧ nth (nthR (partsL L) i) k = (v : Int) := by
  obtain ⟨_, hr, _, _⟩ := headN_spec (nearB_symm hG) hG.1.2 hv
  rw [h] at hr
  have hb := (compN_bit hG.1.2 _ _).2 (hr.symm (nearB_symm hG))
  rw [partsL_nth hG hi]
  have hm : (v : Int) ∈ listM (compN (nearB L) L.length (hdN L i)) := (listM_mem _ _).2 ⟨v, by have := hG.1.2; omega, hb, rfl⟩
  obtain ⟨k, hk, e⟩ := List.getElem_of_mem hm
  exact ⟨k, hk, by rw [nth_eq hk, e]⟩
theorem part_first {L : List (List Int)} (hG : GraphP L) {i : Nat} (hi : i < hdM L) : 0 < (nthR (partsL L) i).length ∧ nth (nthR (partsL L) i) 0 = (hdN L i : Int) := by
  obtain ⟨h1, h2⟩ := hdN_mem hi
  obtain ⟨k, hk, e⟩ := part_all hG hi h1 h2
  have h0 : 0 < (nthR (partsL L) i).length := by omega
  refine ⟨h0, ?_⟩
  obtain ⟨v, e0, hv, hh, _⟩ := part_at hG hi h0
  have hle : hdN L i ≤ v := by have := (headN_spec (nearB_symm hG) hG.1.2 hv).1; rw [hh] at this; exact this
  have hst := listM_set (compN (nearB L) L.length (hdN L i))
  rw [← partsL_nth hG hi] at hst
  have mono : ∀ k, k < (nthR (partsL L) i).length → nth (nthR (partsL L) i) 0 ≤ nth (nthR (partsL L) i) k := by
    intro k
    induction k with
    | zero => intro _; exact Int.le_refl _
    | succ k ih =>
      intro hk
      have h3 := (hst (k + 1) hk).2.2 (by omega)
      rw [Nat.add_sub_cancel] at h3
      have := ih (by omega)
      omega
  have := mono k hk
  rw [e0, e] at this
  rw [e0]
  omega
theorem part_len {L : List (List Int)} (hG : GraphP L) {i : Nat} (hi : i < hdM L) : (nthR (partsL L) i).length ≤ 16 := by rw [partsL_nth hG hi]; exact listM_len _

/-- The sides of the first i parts have been written. -/
def SideTo (L : List (List Int)) (i : Nat) (ys : List Int) : Prop := ys.length = L.length ∧ (∀ x ∈ ys, 0 ≤ x ∧ x < 2) ∧ ∀ v, v < L.length → ∀ j, j < i → headN (nearB L) L.length v = hdN L j → nth ys v = sideV L v
/-- .. and the first k of the next. -/
def SideIn (L : List (List Int)) (i k : Nat) (ys : List Int) : Prop := SideTo L i ys ∧ ∀ q, q < k → nth ys (nth (nthR (partsL L) i) q).toNat = sideV L (nth (nthR (partsL L) i) q).toNat
theorem sideTo_start (L : List (List Int)) : SideTo L 0 (List.replicate L.length 0) := ⟨by simp, fun x hx => by rw [List.mem_replicate] at hx; omega, fun v _ j hj => absurd hj (by omega)⟩
theorem sideIn_start {L : List (List Int)} {i : Nat} {ys : List Int} (h : SideTo L i ys) : SideIn L i 0 ys := ⟨h, fun q hq => absurd hq (by omega)⟩
theorem sideIn_end {L : List (List Int)} (hG : GraphP L) {i : Nat} (hi : i < hdM L) {ys : List Int} (h : SideIn L i (nthR (partsL L) i).length ys) : SideTo L (i + 1) ys := by
  refine ⟨h.1.1, h.1.2.1, fun v hv j hj e => ?_⟩
  rcases Nat.lt_succ_iff_lt_or_eq.1 hj with hj | rfl
  · exact h.1.2.2 v hv j hj e
  · obtain ⟨k, hk, ek⟩ := part_all hG hi hv e
    have := h.2 k hk
    rwa [ek, Int.toNat_natCast] at this
theorem sideTo_end {L : List (List Int)} (hG : GraphP L) {ys : List Int} (h : SideTo L (hdM L) ys) : ys = sideL L := by
  refine nth_ext (by rw [h.1, sideL_len]) (fun v hv => ?_)
  rw [h.1] at hv
  obtain ⟨j, hj, e⟩ := head_all hG hv
  rw [sideL_nth hv]
  exact h.2.2 v hv j hj e
theorem sideTo_set {L : List (List Int)} {i : Nat} {ys : List Int} (h : SideTo L i ys) {v : Nat} (hv : v < L.length) : SideTo L i (ys.set v (sideV L v)) := by
  refine ⟨by simp [h.1], fun x hx => ?_, fun u hu j hj e => ?_⟩
  · rcases List.mem_or_eq_of_mem_set hx with hx | rfl
    · exact h.2.1 x hx
    · exact sideV_rng _ _
  · by_cases e1 : v = u
    · subst e1; rw [nth_set_same (by rw [h.1]; exact hv)]
    · rw [nth_set_other e1]; exact h.2.2 u hu j hj e
theorem sideIn_set {L : List (List Int)} {i k v : Nat} {ys : List Int} (h : SideIn L i k ys) (hv : v < L.length) (e : nth (nthR (partsL L) i) k = (v : Int)) : SideIn L i (k + 1) (ys.set v (sideV L v)) := by
  refine ⟨sideTo_set h.1 hv, fun q hq => ?_⟩
  have hs : nth (ys.set v (sideV L v)) v = sideV L v := nth_set_same (by rw [h.1.1]; exact hv) _
  rcases Nat.lt_succ_iff_lt_or_eq.1 hq with hq | rfl
  · by_cases e1 : v = (nth (nthR (partsL L) i) q).toNat
    · rw [← e1]; exact hs
    · rw [nth_set_other e1]; exact h.2 q hq
  · rw [e, Int.toNat_natCast]; exact hs
theorem sideV_of {L : List (List Int)} {i v : Nat} (h : headN (nearB L) L.length v = hdN L i) : dOf (nearB L) (allS L.length) (hdN L i) v % 2 = sideV L v := by unfold sideV; rw [h]

/-- A row of one's own has been handed back, and a plain yes or no. -/
def GaveRB (w : World) (xs : List Int) (ok : Bool) (e : Ending) (w' : World) : Prop :=
  ∃ m a c, e = .returned (.tuple #[.slice a m c, .bool ok]) ∧ OwnRow 2 w' w.heap.size (.slice a m c) xs ∧ Below w.heap.size w w'

end Go.Proofs.Ytojbaepcflkgeaa

/- Walks: SidesOf, of the model. -/
namespace Go.Proofs.Ytojbaepcflkgeaa
open Go.RowKit

theorem dfL_head {L : List (List Int)} (hG : GraphP L) {i : Nat} (hi : i < hdM L) : dfL L (hdN L i : Int) = distL L.length (nearB L) (allS L.length) (hdN L i) := by
  have h1 := (hdN_mem hi).1
  have : inB (hdN L i : Int) 0 ((L.length : Int) - 1) = true := by simp [inB]; omega
  unfold dfL dfB
  rw [decide_eq_true hG, this, Int.toNat_natCast]
  rfl
theorem edge_at {L : List (List Int)} (hG : GraphP L) {i : Nat} (hi : i < (edgesTo L L.length).length) : ∃ u v : Nat, nthR (edgesTo L L.length) i = [(u : Int), (v : Int)] ∧ u < L.length ∧ v < L.length ∧ adjB L u v = true := by
  obtain ⟨u, hu, x, hx, _, e⟩ := (edgesTo_mem L.length _).1 (nthR_mem hi)
  have hst := (hG.2.1 u hu).1
  obtain ⟨k, hk, ek⟩ := List.getElem_of_mem hx
  obtain ⟨h1, h2, _⟩ := hst k hk
  rw [nth_eq hk, ek] at h1 h2
  refine ⟨u, x.toNat, ?_, hu, by omega, ?_⟩
  · rw [e, show ((x.toNat : Nat) : Int) = x by omega]
  · rw [← adjB_has hG hu (by have := hG.1.2; omega), show ((x.toNat : Nat) : Int) = x by omega]
    exact (hasB_mem _ _).2 hx
theorem edge_has {L : List (List Int)} (hG : GraphP L) {u v : Nat} (hu : u < L.length) (hv : v < L.length) (h : adjB L u v = true) (hlt : u < v) : ∃ i, i < (edgesTo L L.length).length ∧ nthR (edgesTo L L.length) i = [(u : Int), (v : Int)] := by
  have hm : (v : Int) ∈ nthR L u := (hasB_mem _ _).1 (by rw [adjB_has hG hu (by have := hG.1.2; omega)]; exact h)
  have : [(u : Int), (v : Int)] ∈ edgesTo L L.length := (edgesTo_mem L.length _).2 ⟨u, hu, _, hm, by omega, rfl⟩
  obtain ⟨i, hi, e⟩ := List.getElem_of_mem this
  exact ⟨i, hi, by rw [nthR_eq hi, e]⟩
theorem apart_edges {L : List (List Int)} (hG : GraphP L) (h : ∀ i, i < (edgesTo L L.length).length → ∀ u v : Nat, nthR (edgesTo L L.length) i = [(u : Int), (v : Int)] → sideV L u ≠ sideV L v) : ApartP L := by
  intro u v hu hv ha
  rcases Nat.lt_trichotomy u v with hl | hl | hl
  · obtain ⟨i, hi, e⟩ := edge_has hG hu hv ha hl
    exact h i hi u v e
  · subst hl; rw [adjB_self hG] at ha; cases ha
  · obtain ⟨i, hi, e⟩ := edge_has hG hv hu (by rw [adjB_sym hG]; exact ha) hl
    exact fun e' => h i hi v u e e'.symm

theorem rowAt_two {w : World} {v : Value} {x y : Int} (h : RowAt w v [x, y]) : ∃ b o c, v = .slice (some ⟨b, o, none⟩) 2 c ∧ 2 ≤ c ∧ w.cell? ⟨b, o, none⟩ = some (.int .i64 x) ∧ w.cell? ⟨b, o + 1, none⟩ = some (.int .i64 y) := by
  obtain ⟨b, o, c, e, l1, l2, hc⟩ := h.pos (by simp)
  exact ⟨b, o, c, e, l1, hc 0 (by simp), hc 1 (by simp)⟩

set_option maxHeartbeats 8000000 in
set_option maxRecDepth 100000 in
theorem specSidesOf_any (v : Value) (L : List (List Int)) (w : World) (h : GridAt w v L) : Calls Try.prog 25 #[.agg #[v]] w (GaveRB w (soL L) (soB L)) := by
  obtain ⟨a0, c0, rfl⟩ := h.slice
  have kbA : (w.alloc (.cells #[.slice a0 L.length c0] 30)).cell? ⟨w.heap.size, 0, none⟩ = some (.slice a0 L.length c0) := by go_simp
  have ha : Below w.heap.size w (w.alloc (.cells #[.slice a0 L.length c0] 30)) := (Below.refl _ _).alloc (Nat.le_refl _) _
  have HGK : Hid (∀ w', Below w.heap.size w w' → GridAt w' (.slice a0 L.length c0) L) := fun w' hb => h.keep hb
  have HA := Lib.hid ha
  have HKZ := Lib.hid kbA
  clear ha h kbA
  go_enter Try.func25, Try.ntmps25
  go_wp2_with fail
  refine (specGraphOk_any _ _ _ (HGK.out _ HA.out)).mono ?_
  rintro e w1 ⟨rfl, hb1⟩
  have kb1 := cell_keep hb1 HKZ.out
  have HB1 : Hid (Below w.heap.size w w1) := HA.out.trans (hb1.mono HA.out.size)
  have hs1 : w.heap.size + 1 ≤ w1.heap.size := by have := hb1.size; simpa using this
  clear hb1 HKZ HA
  by_cases hG : GraphP L
  · have hz := hG.1
    have HG := Lib.hid hG
    rw [decide_eq_true hG]
    clear hG
    go_wp2_with fail
    refine (l1Size_any _ L _ (HGK.out _ HB1.out)).mono ?_
    rintro e w2 ⟨rfl, hb2⟩
    have kb2 := cell_keep hb2 kb1
    have HB2 : Hid (Below w.heap.size w w2) := HB1.out.trans (hb2.mono HB1.out.size)
    have hs2 : w.heap.size + 1 ≤ w2.heap.size := by have := hb2.size; omega
    have hmk := run_make_row' (P := Try.prog) 35 2 (.int .i64 0) 8 Try.underlying35 Try.infoI rfl .i64 .i64 L.length (by omega) (by omega)
    have HR := Lib.hid (World.rowIs_made w2 (.int .i64 0) L.length 2)
    have kb2' : (w2.alloc (.cells (madeCells #[.int .i64 0] L.length) 2)).cell? ⟨w.heap.size, 0, none⟩ = some (.slice a0 L.length c0) := cell_keep ((Below.refl _ _).alloc (Nat.le_refl _) _) kb2
    have HBM : Hid (Below w2.heap.size w2 (w2.alloc (.cells (madeCells #[.int .i64 0] L.length) 2))) := (Below.refl _ _).alloc (Nat.le_refl _) _
    have HOM : Hid (OwnRow 2 (w2.alloc (.cells (madeCells #[.int .i64 0] L.length) 2)) w2.heap.size (.slice (some ⟨w2.heap.size, 0, none⟩) L.length L.length) (List.replicate L.length 0)) :=
      OwnRow.of_rowIs HR.out (Nat.le_refl _) (by simp) (by unfold maxLen; omega) (fun x hx => by rw [List.mem_replicate] at hx; rw [hx.2]; unfold I64; omega) (fun i hi => by simp [nth, hi])
    have KB : Hid (∀ w', Below w2.heap.size w2 w' → w'.cell? ⟨w.heap.size, 0, none⟩ = some (.slice a0 L.length c0)) := fun w' hb => cell_keep hb kb2
    have GK : Hid (∀ w', Below w2.heap.size w2 w' → GridAt w' (.slice a0 L.length c0) L) := fun w' hb => HGK.out _ (HB2.out.trans (hb.mono HB2.out.size))
    clear hb2 kb1 HB1 HR kb2 hs1
    go_wp2_with fail
    clear hmk
    generalize hW3 : w2.alloc (.cells (madeCells #[.int .i64 0] L.length) 2) = W3 at *
    have hsW : W3.heap.size = w2.heap.size + 1 := by rw [← hW3]; simp
    clear hW3
    refine (specPartsOf_any _ L _ (GK.out _ HBM.out)).mono ?_
    rintro e w3 ⟨n3, a3, c3, rfl, ho3, hb3⟩
    have HB3 : Hid (Below w2.heap.size w2 w3) := HBM.out.trans (hb3.mono HBM.out.size)
    have HO3 := Lib.hid (HOM.out.keep hb3)
    rw [hsW] at ho3
    obtain ⟨a3', c3', e3⟩ := ho3.grid.slice
    simp only [Value.slice.injEq] at e3
    obtain ⟨rfl, rfl, rfl⟩ := e3
    rw [partsL_len HG.out] at ho3 ⊢
    have HP3 := Lib.hid ho3
    have hm16 : hdM L ≤ 16 := by have := hdM_le L; omega
    clear ho3 hb3 HOM HBM kb2'
    go_wp2_with fail
    go_loopw [6] (fun iv wr => ∃ (i : Nat) (ys : List Int), i ≤ hdM L ∧ iv = .int .i64 i ∧ SideTo L i ys ∧ OwnRow 2 wr w2.heap.size (.slice (some ⟨w2.heap.size, 0, none⟩) L.length L.length) ys ∧ OwnGrid 2 35 wr (w2.heap.size + 1) (.slice a3 (hdM L) c3) (partsL L) ∧ Below w2.heap.size w2 wr) (fun iv _ => hdM L - (intOf iv).toNat)
    case atStart => exact ⟨0, _, Nat.zero_le _, rfl, sideTo_start L, HO3.out, HP3.out, HB3.out⟩
    case round =>
      clear HO3 HP3 HB3
      obtain ⟨i, ys, hi, rfl, hsd, ho, hp, hb⟩ := hrel
      have HSD := Lib.hid hsd
      have HO := Lib.hid ho
      have HP := Lib.hid hp
      have HB := Lib.hid hb
      have kb := KB.out _ hb
      clear hsd ho hb
      by_cases hil : i < hdM L
      · have HPL := Lib.hid (partsL_len HG.out)
        obtain ⟨b, o, c, A, C, e1, l1, l2, hc⟩ := hp.grid.pos (by rw [partsL_len HG.out]; omega)
        rw [HPL.out] at l1 e1 hc
        simp only [Value.slice.injEq, true_and] at e1
        obtain ⟨rfl, rfl⟩ := e1
        have hcs := (hc i hil).1
        have hrow := (hc i hil).2
        obtain ⟨hp0, hpf⟩ := part_first HG.out hil
        have hpl := part_len HG.out hil
        obtain ⟨b1, o1, c1, e1, m1, m2, hcr⟩ := hrow.pos hp0
        simp only [Value.slice.injEq, true_and] at e1
        obtain ⟨eA, eC⟩ := e1
        rw [eA, eC] at hcs
        have hc0 := hcr 0 hp0
        rw [hpf, Nat.add_zero] at hc0
        have hhd := (hdN_mem hil).1
        have HDF := Lib.hid (dfL_head HG.out hil)
        have HI64 : Hid (I64 (hdN L i : Int)) := by show I64 _; unfold I64; omega
        clear hc hrow hcr eA eC hp hpf
        go_wp2_with fail
        go_region_held3 (fun wx => wx.cell? ⟨w.heap.size, 0, none⟩ = some (.slice a0 L.length c0) ∧ wx.cell? ⟨b, o + i, none⟩ = some (.slice (some ⟨b1, o1, none⟩) (nthR (partsL L) i).length c1) ∧ wx.cell? ⟨b1, o1, none⟩ = some (.int .i64 (hdN L i : Int))) (first | exact ⟨kb, hcs, hc0⟩ | exact ⟨kba, hca, hcb⟩)
          (first
            | (go_at_call 52; refine (specDistancesFrom_any _ L (hdN L i : Int) _ (GK.out _ HB.out.drew) HI64.out).mono ?_; rintro e wa ⟨na, aa, ca, rfl, hoa, hba⟩; have kba := cell_keep hba (cell_keep (Below.refl _ _).drew kb); have hca := cell_keep hba (cell_keep (Below.refl _ _).drew hcs); have hcb := cell_keep hba (cell_keep (Below.refl _ _).drew hc0); rw [HDF.out] at hoa; have HOA := Lib.hid hoa; have HBA : Hid (Below wr.heap.size wr wa) := (Below.refl _ _).drew.trans hba; clear hoa hba))
        obtain ⟨gf, cf, e7, hgfB, hgfl, hcf1, hcf2⟩ := HOA.out.posB (by rw [distL_len]; omega)
        rw [distL_len] at e7 hcf1
        simp only [Value.slice.injEq] at e7
        obtain ⟨rfl, rfl, rfl⟩ := e7
        have hwr : w2.heap.size + 1 ≤ wr.heap.size := by have := (HO.out.posB (by rw [HSD.out.1]; omega)); obtain ⟨g, cp, e, _, hl, _⟩ := this; simp only [Value.slice.injEq, Option.some.injEq, Addr.mk.injEq] at e; omega
        have HO5 := Lib.hid (HO.out.keep HBA.out)
        have HP5 := Lib.hid (HP.out.keep HBA.out)
        have HB5 : Hid (Below w2.heap.size w2 wa) := HB.out.trans (HBA.out.mono HB.out.size)
        have HF5 := Lib.hid (HOA.out.mono hwr)
        clear kba hca hcb HO HP HB HOA HBA hcs hc0 kb
        go_wp2_with fail
        go_loopw [8] (fun kv wx => ∃ (k : Nat) (zs : List Int), k ≤ (nthR (partsL L) i).length ∧ kv = .int .i64 k ∧ SideIn L i k zs ∧ OwnRow 2 wx w2.heap.size (.slice (some ⟨w2.heap.size, 0, none⟩) L.length L.length) zs ∧ OwnGrid 2 35 wx (w2.heap.size + 1) (.slice (some ⟨b, o, none⟩) (hdM L) c3) (partsL L) ∧ OwnRow 2 wx (w2.heap.size + 1) (.slice (some ⟨gf, 0, none⟩) L.length ca) (distL L.length (nearB L) (allS L.length) (hdN L i)) ∧ Below w2.heap.size w2 wx) (fun kv _ => (nthR (partsL L) i).length - (intOf kv).toNat)
        case atStart => exact ⟨0, ys, Nat.zero_le _, rfl, sideIn_start HSD.out, HO5.out, HP5.out, HF5.out, HB5.out⟩
        case round =>
          clear HO5 HP5 HB5 HF5 HSD
          rename World => wx
          obtain ⟨k, zs, hk, rfl, hsd, ho, hp, hf, hb⟩ := hrel
          obtain ⟨b', o', c', A', C', e1, l1', l2', hc⟩ := hp.grid.pos (by rw [HPL.out]; omega)
          rw [HPL.out] at l1' e1 hc
          simp only [Value.slice.injEq, true_and, Option.some.injEq, Addr.mk.injEq, and_true] at e1
          obtain ⟨⟨rfl, rfl⟩, rfl⟩ := e1
          have hcs := (hc i hil).1
          have hrow := (hc i hil).2
          obtain ⟨b2, o2, c2, e2, m1', m2', hcr⟩ := hrow.pos hp0
          simp only [Value.slice.injEq, true_and] at e2
          obtain ⟨eA, eC⟩ := e2
          rw [eA, eC] at hcs
          have HSD := Lib.hid hsd
          have HO := Lib.hid ho
          have HP := Lib.hid hp
          have HF := Lib.hid hf
          have HB := Lib.hid hb
          have hgB : w2.heap.size + 1 ≤ gf := (by obtain ⟨g, cp, e, hB, _⟩ := hf.posB (by rw [distL_len]; omega); simp only [Value.slice.injEq, Option.some.injEq, Addr.mk.injEq] at e; omega)
          clear eA eC hc hrow
          by_cases hkl : k < (nthR (partsL L) i).length
          · obtain ⟨u, hu, hun, hhu, hd0, hd16⟩ := part_at HG.out hil hkl
            have hcu := hcr k hkl
            rw [hu] at hcu
            have hfu := hf.cells' u (by rw [distL_len]; exact hun)
            rw [distL_nth hun] at hfu
            have hsv := sideV_rng L u
            obtain ⟨hput, hsu, hsf, _⟩ := ho.laidAt' hsd.1.1 hun (z := sideV L u) (by unfold I64; omega)
            have HPUT := Lib.hid hput
            have hmod : Int.tmod (dOf (nearB L) (allS L.length) (hdN L i) u) 2 = sideV L u := by rw [Int.tmod_eq_emod_of_nonneg hd0]; exact sideV_of hhu
            have HNX := Lib.hid (sideIn_set hsd hun hu)
            obtain ⟨D, hD⟩ : ∃ D, D = dOf (nearB L) (allS L.length) (hdN L i) u := ⟨_, rfl⟩
            obtain ⟨Sv, hSv⟩ : ∃ Sv, Sv = sideV L u := ⟨_, rfl⟩
            rw [← hD] at hfu hmod hd0 hd16
            rw [← hSv] at hmod hsv HPUT HNX
            have hmod2 : D % 2 = Sv := by rw [← Int.tmod_eq_emod_of_nonneg hd0]; exact hmod
            obtain ⟨Z0, hZ0⟩ : ∃ Z0, Z0 = nth zs u := ⟨_, rfl⟩
            rw [← hZ0] at hsu
            clear hput hcr hsd ho hp hf hb hu hhu hD hSv hZ0
            go_wp2_with fail
            go_region
            go_wp2
            go_roundw
            case rel => exact ⟨k + 1, _, by omega, by go_num, HNX.out, HPUT.out, HP.out.setBelow (Nat.lt_succ_self _) _, HF.out.setBelow (Nat.lt_succ_self _) _, (HB.out.setCell (p := ⟨w2.heap.size, u, none⟩) (Nat.le_refl _) _).drew⟩
            case measure => simp [intOf]; omega
          · obtain rfl : k = (nthR (partsL L) i).length := by omega
            have HNX := Lib.hid (sideIn_end HG.out hil hsd)
            clear hcr hsd ho hp hf hb
            go_wp2
            go_roundw
            case rel => exact ⟨i + 1, zs, by omega, by go_num, HNX.out, HO.out, HP.out, HB.out⟩
            case measure => simp [intOf]; omega
      · obtain rfl : i = hdM L := by omega
        have hys := sideTo_end HG.out HSD.out
        subst hys
        clear hp HSD HP
        go_wp2_with fail
        refine (l1Edges_any _ L _ (GK.out _ HB.out) HG.out).mono ?_
        rintro e w5 ⟨n5, a5, c5, rfl, ho5, hb5⟩
        obtain ⟨a5', c5', e5⟩ := ho5.grid.slice
        simp only [Value.slice.injEq] at e5
        obtain ⟨rfl, rfl, rfl⟩ := e5
        have HB5 : Hid (Below w2.heap.size w2 w5) := HB.out.trans (hb5.mono HB.out.size)
        have HO5 := Lib.hid (HO.out.keep hb5)
        have HE5 := Lib.hid ho5.grid
        clear ho5 hb5 HO HB kb
        go_wp2_with fail
        go_loopw [10] (fun iv wx => ∃ j : Nat, j ≤ (edgesTo L L.length).length ∧ iv = .int .i64 j ∧ (∀ q, q < j → ∀ u v : Nat, nthR (edgesTo L L.length) q = [(u : Int), (v : Int)] → sideV L u ≠ sideV L v) ∧ Drawn w5 wx) (fun iv _ => (edgesTo L L.length).length - (intOf iv).toNat)
        case atStart => exact ⟨0, Nat.zero_le _, rfl, fun q hq => absurd hq (by omega), Drawn.refl _⟩
        case round =>
          rename World => wx
          obtain ⟨j, hj, rfl, hne, hd⟩ := hrel
          have HNE := Lib.hid hne
          have HD := Lib.hid hd
          have hel : (edgesTo L L.length).length ≤ 120 := edges_le HG.out
          clear hne
          by_cases hjl : j < (edgesTo L L.length).length
          · obtain ⟨u, x, hed, hun, hxn, hadj⟩ := edge_at HG.out hjl
            obtain ⟨b, o, c, A, C, e1, l1, l2, hc⟩ := (HE5.out.keep (hd.below _)).pos (by omega)
            simp only [Value.slice.injEq, true_and] at e1
            obtain ⟨rfl, rfl⟩ := e1
            have hcs := (hc j hjl).1
            have hrow := (hc j hjl).2
            rw [hed] at hrow hcs
            obtain ⟨b1, o1, c1, e1, m1, hr0, hr1⟩ := rowAt_two hrow
            simp only [List.length_cons, List.length_nil, Nat.reduceAdd] at hcs
            simp only [List.length_cons, List.length_nil, Nat.reduceAdd, Value.slice.injEq, true_and] at e1
            obtain ⟨eA, eC⟩ := e1
            rw [eA, eC] at hcs
            have hO := HO5.out.keep (hd.below _)
            have hsu := hO.cells' u (by rw [sideL_len]; exact hun)
            have hsx := hO.cells' x (by rw [sideL_len]; exact hxn)
            rw [sideL_nth hun] at hsu
            rw [sideL_nth hxn] at hsx
            have HAD := Lib.hid hadj
            have HED := Lib.hid hed
            obtain ⟨Su, hSu⟩ : ∃ Su, Su = sideV L u := ⟨_, rfl⟩
            obtain ⟨Sx, hSx⟩ : ∃ Sx, Sx = sideV L x := ⟨_, rfl⟩
            rw [← hSu] at hsu
            rw [← hSx] at hsx
            have HSu := Lib.hid hSu
            have HSx := Lib.hid hSx
            clear hc hrow eA eC hO hd hadj hed hSu hSx
            by_cases hss : Su = Sx
            · have HE : Hid (soB L = false) := soB_no (fun hh => hh.2 u x hun hxn HAD.out (by rw [← HSu.out, ← HSx.out]; exact hss))
              subst hss
              clear HSu HSx
              go_wp2
              go_quiet (fail)
              go_wp2
              rename_i nq
              refine bodyPost_ret (v := .tuple #[.slice (some ⟨wx.heap.size, 0, none⟩) 0 0, .bool false]) (by simp [results, Try.results25, go_sem]) rfl ?_
              rw [soL_no HE.out, HE.out]
              have hBB : Below w.heap.size w (wx.drewN nq) := HB2.out.trans ((HB5.out.trans ((HD.out.more nq).below _)).mono HB2.out.size)
              obtain ⟨m, a, c, e, ho, hb⟩ := gaveNone hBB
              simp only [Ending.returned.injEq, Value.slice.injEq] at e
              obtain ⟨rfl, rfl, rfl⟩ := e
              exact ⟨_, _, _, by simp, ho, hb⟩
            · have q1 : (Su == Sx) = false := by rw [beq_eq_false_iff_ne]; exact hss
              have HNX : Hid (∀ q, q < j + 1 → ∀ u v : Nat, nthR (edgesTo L L.length) q = [(u : Int), (v : Int)] → sideV L u ≠ sideV L v) := fun q hq u' v' e => by
                rcases Nat.lt_succ_iff_lt_or_eq.1 hq with hq | rfl
                · exact HNE.out q hq u' v' e
                · rw [HED.out] at e
                  simp only [List.cons.injEq, and_true] at e
                  have e1 : u = u' := by omega
                  have e2 : x = v' := by omega
                  subst e1 e2
                  rw [← HSu.out, ← HSx.out]; exact hss
              clear hss HSu HSx
              go_wp2
              go_quiet (fail)
              go_wp2
              go_roundw
              case rel => exact ⟨j + 1, by omega, by go_num, HNX.out, HD.out.more _⟩
              case measure => simp [intOf]; omega
          · obtain rfl : j = (edgesTo L L.length).length := by omega
            have HE : Hid (soB L = true) := soB_yes HG.out (apart_edges HG.out HNE.out)
            clear hd
            go_wp2
            refine bodyPost_ret (v := .tuple #[.slice (some ⟨w2.heap.size, 0, none⟩) L.length L.length, .bool true]) (by simp [results, Try.results25, go_sem]) rfl ?_
            rw [soL_yes HE.out, HE.out]
            exact ⟨_, _, _, rfl, (HO5.out.keep (HD.out.below _)).mono (by omega), HB2.out.trans ((HB5.out.trans (HD.out.below _)).mono HB2.out.size)⟩
  · have HE : Hid (soB L = false) := soB_no (fun hh => hG hh.1)
    rw [decide_eq_false hG]
    clear hG
    go_wp2
    refine bodyPost_ret (v := .tuple #[.slice (some ⟨w1.heap.size, 0, none⟩) 0 0, .bool false]) (by simp [results, Try.results25, go_sem]) rfl ?_
    rw [soL_no HE.out, HE.out]
    obtain ⟨m, a, c, e, ho, hb⟩ := gaveNone HB1.out
    simp only [Ending.returned.injEq, Value.slice.injEq] at e
    obtain ⟨rfl, rfl, rfl⟩ := e
    exact ⟨_, _, _, rfl, ho, hb⟩

end Go.Proofs.Ytojbaepcflkgeaa
