/- The texts Z1, Z2, Z3, Z4, FP2, joined. -/
import Derived.Test.YtohjfcfcopbmoaaGreatDoorQCB1
import Derived.Test.YtohjfcfcopbmoaaGreatDoorQV1
import Derived.Test.YtohjfcfcopbmoaaGreatDoorQGrid
import Derived.Deep.RegionHeld3
import Derived.Test.YtohjfcfcopbmoaaGreatDoorQX2
import Derived.RangeFuncFrom
import Derived.Test.YtohjfcfcopbmoaaGreatDoorQY1
import Derived.Test.YtohjfcfcopbmoaaGreatDoorQE1
import Derived.Test.YtohjfcfcopbmoaaGreatDoorQF6
import Derived.Test.YtohjfcfcopbmoaaGreatDoorQMark
import Derived.Test.YtohjfcfcopbmoaaGreatDoorQK1

/- Plain facts: parts of a graph. -/
namespace Go.Proofs.YtohjfcfcopbmoaaGreatDoor

section
variable {A : Nat → Nat → Bool} {S : Nat → Bool}
theorem wk_trans {v u : Nat} {k : Nat} (h : Wk A S v k u) : ∀ {j x : Nat}, Wk A S u j x → Wk A S v (k + j) x := by
  intro j
  induction j with
  | zero => rintro x ⟨rfl, _⟩; exact h
  | succ j ih => rintro x ⟨hs, w, hw, ha⟩; exact ⟨hs, w, ih hw, ha⟩
theorem wk_src {v k u : Nat} (h : Wk A S v k u) : S v = true := by
  induction k generalizing u with
  | zero => exact h.2
  | succ k ih => obtain ⟨_, w, hw, _⟩ := h; exact ih hw
theorem wk_symm (hA : ∀ a b, A a b = A b a) {v : Nat} : ∀ {k u : Nat}, Wk A S v k u → Wk A S u k v := by
  intro k
  induction k with
  | zero => rintro u ⟨rfl, h⟩; exact ⟨rfl, h⟩
  | succ k ih =>
    rintro u ⟨hs, w, hw, ha⟩
    have h1 : Wk A S u 1 w := ⟨wk_in hw, u, ⟨rfl, hs⟩, by rw [hA]; exact ha⟩
    have := wk_trans h1 (ih hw)
    rwa [Nat.add_comm] at this
/-- One can come from v to u. -/
def Reach (A : Nat → Nat → Bool) (S : Nat → Bool) (v u : Nat) : Prop := ∃ k, Wk A S v k u
theorem reach_at {v u : Nat} : Reach A S v u ↔ ∃ k, AtD A S v k u := ⟨fun ⟨_, h⟩ => (wk_atD h).elim fun j hj => ⟨j, hj.2⟩, fun ⟨k, h⟩ => ⟨k, h.1⟩⟩
theorem Reach.trans {v u x : Nat} (h : Reach A S v u) (h' : Reach A S u x) : Reach A S v x := by obtain ⟨k, h⟩ := h; obtain ⟨j, h'⟩ := h'; exact ⟨_, wk_trans h h'⟩
theorem Reach.symm (hA : ∀ a b, A a b = A b a) {v u : Nat} (h : Reach A S v u) : Reach A S u v := by obtain ⟨k, h⟩ := h; exact ⟨k, wk_symm hA h⟩
theorem Reach.refl {v : Nat} (h : S v = true) : Reach A S v v := ⟨0, rfl, h⟩
theorem Reach.mem {v u : Nat} (h : Reach A S v u) : S u = true := by obtain ⟨k, h⟩ := h; exact wk_in h
theorem reachN_iff {v : Nat} (hS : ∀ u, S u = true → u < 16) (u : Nat) : (reachN A S v).testBit u = true ↔ Reach A S v u := by rw [reachN_bit hS, reach_at]
/-- In a set that has all neighbours of its own, one comes as far as in the whole. -/
theorem reach_within {S' : Nat → Bool} (hsub : ∀ u, S' u = true → S u = true) (hcl : ∀ a b, S' a = true → S b = true → A a b = true → S' b = true) {v : Nat} (hv : S' v = true) (u : Nat) : Reach A S' v u ↔ Reach A S v u := by
  constructor
  · rintro ⟨k, h⟩
    refine ⟨k, ?_⟩
    induction k generalizing u with
    | zero => exact ⟨h.1, hsub _ hv⟩
    | succ k ih => obtain ⟨hs, w, hw, ha⟩ := h; exact ⟨hsub _ hs, w, ih w hw, ha⟩
  · rintro ⟨k, h⟩
    refine ⟨k, ?_⟩
    induction k generalizing u with
    | zero => exact ⟨h.1, hv⟩
    | succ k ih => obtain ⟨hs, w, hw, ha⟩ := h; have h1 := ih w hw; exact ⟨hcl w u (wk_in h1) hs ha, w, h1, ha⟩
end

/-- The part of v, as a mask. -/
noncomputable def compN (A : Nat → Nat → Bool) (n v : Nat) : Nat := reachN A (allS n) v
theorem compN_lt (A : Nat → Nat → Bool) (n v : Nat) : compN A n v < 65536 := reachN_lt _ _ _
section
variable {A : Nat → Nat → Bool} {n : Nat}
theorem allS16 (hn : n ≤ 16) : ∀ u, allS n u = true → u < 16 := fun u hu => by have := (allS_iff n u).1 hu; omega
theorem compN_bit (hn : n ≤ 16) (v u : Nat) : (compN A n v).testBit u = true ↔ Reach A (allS n) v u := reachN_iff (allS16 hn) u
theorem compN_self (hn : n ≤ 16) {v : Nat} (hv : v < n) : (compN A n v).testBit v = true := (compN_bit hn v v).2 (Reach.refl ((allS_iff _ _).2 hv))
theorem compN_ne (hn : n ≤ 16) {v : Nat} (hv : v < n) : compN A n v ≠ 0 := fun e => by have := compN_self (A := A) hn hv; rw [e] at this; simp at this
theorem compN_eq (hA : ∀ a b, A a b = A b a) (hn : n ≤ 16) {v u : Nat} (h : Reach A (allS n) v u) : compN A n u = compN A n v := bit_ext fun x => by
  rw [compN_bit hn, compN_bit hn]
  exact ⟨fun h' => h.trans h', fun h' => (h.symm hA).trans h'⟩
/-- The least vertex of v's part. -/
noncomputable def headN (A : Nat → Nat → Bool) (n v : Nat) : Nat := leastM (compN A n v)
theorem headN_spec (hA : ∀ a b, A a b = A b a) (hn : n ≤ 16) {v : Nat} (hv : v < n) : headN A n v ≤ v ∧ Reach A (allS n) v (headN A n v) ∧ headN A n (headN A n v) = headN A n v ∧ headN A n v < n := by
  obtain ⟨h1, h2, h3⟩ := leastM_spec (compN_ne (A := A) hn hv) (compN_lt A n v)
  have hr := (compN_bit hn v _).1 h2
  refine ⟨?_, hr, ?_, (allS_iff _ _).1 hr.mem⟩
  · rcases Nat.lt_or_ge v (headN A n v) with h | h
    · have := h3 v h; rw [compN_self hn hv] at this; cases this
    · exact h
  · unfold headN; rw [compN_eq hA hn hr]
theorem headN_eq (hA : ∀ a b, A a b = A b a) (hn : n ≤ 16) {v u : Nat} (h : Reach A (allS n) v u) : headN A n u = headN A n v := by unfold headN; rw [compN_eq hA hn h]
/-- The parts whose least vertex is below k, as masks. -/
noncomputable def partsM (A : Nat → Nat → Bool) (n k : Nat) : List Nat := ((List.range k).filter (fun v => headN A n v == v)).map (compN A n)
theorem partsM_succ (A : Nat → Nat → Bool) (n k : Nat) : partsM A n (k + 1) = partsM A n k ++ if headN A n k == k then [compN A n k] else [] := by
  unfold partsM
  rw [List.range_succ, List.filter_append, List.map_append]
  congr 1
  by_cases h : (headN A n k == k) = true
  · simp [h]
  · simp [h]
theorem partsM_len (A : Nat → Nat → Bool) (n k : Nat) : (partsM A n k).length ≤ k := by
  unfold partsM
  rw [List.length_map]
  have := List.length_filter_le (fun v => headN A n v == v) (List.range k)
  rwa [List.length_range] at this
theorem partsM_lt {A : Nat → Nat → Bool} {n k : Nat} : ∀ m ∈ partsM A n k, m < 65536 := by
  intro m hm
  unfold partsM at hm
  rw [List.mem_map] at hm
  obtain ⟨v, _, rfl⟩ := hm
  exact compN_lt _ _ _
/-- Where no vertex from i to j begins a part, there are no parts between. -/
theorem partsM_same {i j : Nat} (hij : i ≤ j) (h : ∀ v, i ≤ v → v < j → headN A n v ≠ v) : partsM A n j = partsM A n i := by
  induction j with
  | zero => obtain rfl : i = 0 := by omega
            rfl
  | succ j ih =>
    by_cases e : i = j + 1
    · subst e; rfl
    · rw [partsM_succ, if_neg (by simpa using h j (by omega) (by omega)), List.append_nil]
      exact ih (by omega) (fun v h1 h2 => h v h1 (by omega))
open Classical in
/-- The vertices whose part begins at i or later. -/
noncomputable def restN (A : Nat → Nat → Bool) (n i : Nat) : Nat := pm (fun u => decide (u < n ∧ i ≤ headN A n u))
theorem restN_lt (A : Nat → Nat → Bool) (n i : Nat) : restN A n i < 65536 := pm_lt _
open Classical in
theorem restN_bit (hn : n ≤ 16) (i u : Nat) : (restN A n i).testBit u = true ↔ u < n ∧ i ≤ headN A n u := by
  unfold restN
  rw [pm_bit, Bool.and_eq_true, decide_eq_true_iff, decide_eq_true_iff]
  exact ⟨fun h => h.2, fun h => ⟨by omega, h⟩⟩
theorem restN_zero (hn : n ≤ 16) : restN A n 0 = 2 ^ n - 1 := bit_ext fun u => by
  rw [restN_bit hn, whole_bit, decide_eq_true_iff]
  exact ⟨fun h => h.1, fun h => ⟨h, by omega⟩⟩
/-- What stands at the head of a rest: a vertex v that begins a part; all before it is done. -/
theorem restN_least (hA : ∀ a b, A a b = A b a) (hn : n ≤ 16) {i : Nat} (h0 : restN A n i ≠ 0) : i ≤ leastM (restN A n i) ∧ leastM (restN A n i) < n ∧ headN A n (leastM (restN A n i)) = leastM (restN A n i) ∧ (∀ v, i ≤ v → v < leastM (restN A n i) → headN A n v ≠ v) ∧ restN A n (leastM (restN A n i)) = restN A n i := by
  obtain ⟨h1, h2, h3⟩ := leastM_spec h0 (restN_lt A n i)
  obtain ⟨hv, hi⟩ := (restN_bit hn i _).1 h2
  generalize hq : leastM (restN A n i) = q at *
  obtain ⟨g1, g2, g3, g4⟩ := headN_spec hA hn hv
  have hh : headN A n q = q := by
    rcases Nat.lt_or_ge (headN A n q) q with h | h
    · have h4 := h3 _ h
      have : (restN A n i).testBit (headN A n q) = true := (restN_bit hn i _).2 ⟨g4, by rw [g3]; exact hi⟩
      rw [this] at h4; cases h4
    · omega
  refine ⟨by omega, hv, hh, fun v h4 h5 e => ?_, bit_ext fun u => ?_⟩
  · have h6 := h3 v h5
    have : (restN A n i).testBit v = true := (restN_bit hn i v).2 ⟨by omega, by omega⟩
    rw [this] at h6; cases h6
  · rw [restN_bit hn, restN_bit hn]
    constructor
    · rintro ⟨h4, h5⟩; exact ⟨h4, by omega⟩
    · rintro ⟨h4, h5⟩
      refine ⟨h4, ?_⟩
      obtain ⟨k1, k2, k3, k4⟩ := headN_spec hA hn h4
      rcases Nat.lt_or_ge (headN A n u) q with h | h
      · have h6 := h3 _ h
        have : (restN A n i).testBit (headN A n u) = true := (restN_bit hn i _).2 ⟨k4, by omega⟩
        rw [this] at h6; cases h6
      · exact h
/-- Taken away: the part that begins at v. -/
theorem restN_step (hA : ∀ a b, A a b = A b a) (hn : n ≤ 16) {v : Nat} (_hv : v < n) (hh : headN A n v = v) : clrM (restN A n v) (compN A n v) = restN A n (v + 1) := bit_ext fun u => by
  rw [clrM_bit (restN_lt _ _ _) (compN_lt _ _ _), Bool.and_eq_true, Bool.not_eq_true', ← Bool.not_eq_true, restN_bit hn, restN_bit hn, compN_bit hn]
  constructor
  · rintro ⟨⟨h1, h2⟩, h3⟩
    refine ⟨h1, ?_⟩
    rcases Nat.lt_or_ge (headN A n u) (v + 1) with h | h
    · exfalso
      have e : headN A n u = v := by omega
      obtain ⟨_, k2, _, _⟩ := headN_spec hA hn h1
      rw [e] at k2
      exact h3 (k2.symm hA)
    · exact h
  · rintro ⟨h1, h2⟩
    refine ⟨⟨h1, by omega⟩, fun h3 => ?_⟩
    rw [headN_eq hA hn h3, hh] at h2
    omega
/-- In a rest, one comes as far as in the whole. -/
theorem reach_rest (hA : ∀ a b, A a b = A b a) (hn : n ≤ 16) {i v : Nat} (hv : (restN A n i).testBit v = true) : reachN A (bitS (restN A n i)) v = compN A n v := bit_ext fun u => by
  rw [reachN_iff (bitS_lt (restN_lt _ _ _)), compN_bit hn]
  refine reach_within (fun u hu => ?_) (fun a b ha hb hab => ?_) hv u
  · exact (allS_iff _ _).2 ((restN_bit hn i u).1 hu).1
  · have h1 := (restN_bit hn i a).1 ha
    have h2 := (allS_iff _ _).1 hb
    refine (restN_bit hn i b).2 ⟨h2, ?_⟩
    have h3 : Reach A (allS n) a b := ⟨1, hb, a, ⟨rfl, (allS_iff _ _).2 h1.1⟩, hab⟩
    rw [headN_eq hA hn h3]; exact h1.2
theorem restN_end (hn : n ≤ 16) (hA : ∀ a b, A a b = A b a) : restN A n n = 0 := bit_ext fun u => by
  rw [restN_bit hn]
  simp only [Nat.zero_testBit, Bool.false_eq_true, iff_false]
  rintro ⟨h1, h2⟩
  have := (headN_spec hA hn h1).1
  omega
end
theorem nearB_symm {L : List (List Int)} (hG : GraphP L) : ∀ a b, nearB L a b = nearB L b a := by
  intro a b
  have key : ∀ a b, nearB L a b = true → nearB L b a = true := by
    intro a b h
    unfold nearB at h ⊢
    by_cases ha : a < L.length
    · obtain ⟨i, hi, e⟩ := (hasB_iff _ _).1 h
      have hb := (hG.2.1 a ha).1 i hi
      have := hasB_back hG (u := (a : Int)) (x := (b : Int)) (by omega) (by have := hb.1; have := hb.2.1; omega) (by simpa using h)
      simpa using this
    · have e2 : nthR L a = [] := by unfold nthR; rw [List.getD_eq_getElem?_getD, List.getElem?_eq_none (by omega)]; rfl
      rw [e2] at h
      simp [hasB] at h
  rw [Bool.eq_iff_iff]
  exact ⟨key a b, key b a⟩

end Go.Proofs.YtohjfcfcopbmoaaGreatDoor

/- Walks: PartsOf, of the model. -/
namespace Go.Proofs.YtohjfcfcopbmoaaGreatDoor
open Go.RowKit

theorem ints_one' (xs : List Int) : ∀ u ∈ xs.map (Value.int .i64), u.oneCell' = true := by
  intro u hu
  rw [List.mem_map] at hu
  obtain ⟨x, _, rfl⟩ := hu
  rfl

/-- A grid of one's own, and a row of one's own beside it. -/
structure GridD (w : World) (B : Nat) (o d : Value) (L : List (List Int)) (ds : List Int) (R : Nat → Value) : Prop where
  len : L.length ≤ 16
  outer : w.ownsRow B 33 1 o L.length ((List.range L.length).map R)
  rows : ∀ i, i < L.length → OwnRow 2 w B (R i) (nthR L i)
  apart : ∀ i j k, i < j → j < L.length → (R i).ownBlock = some k → (R j).ownBlock ≠ some k
  row : OwnRow 2 w B d ds
  off : ∀ i k, i < L.length → (R i).ownBlock = some k → d.ownBlock ≠ some k
theorem GridD.grid {w : World} {B : Nat} {o d : Value} {L : List (List Int)} {ds : List Int} {R : Nat → Value} (h : GridD w B o d L ds R) : OwnGrid 2 33 w B o L :=
  OwnGrid.of_owns (by have := h.len; unfold maxLen; omega) h.outer h.rows h.apart
theorem ownsRow_keep {w w' : World} {B : Nat} {T : TypeId} {v : Value} {n : Nat} {xs : List Value} (h : w.ownsRow B T 1 v n xs) (hb : Below w.heap.size w w') : w'.ownsRow B T 1 v n xs := by
  refine ⟨h.1, ?_⟩
  rcases h.2 with h1 | ⟨g, cap, cur, e, hgB, hh, r⟩
  · exact Or.inl h1
  · obtain ⟨hlt, _⟩ := Array.getElem?_eq_some_iff.1 hh
    exact Or.inr ⟨g, cap, cur, e, hgB, by rw [hb.block g hlt]; exact hh, r⟩
theorem GridD.keep {w w' : World} {B : Nat} {o d : Value} {L : List (List Int)} {ds : List Int} {R : Nat → Value} (h : GridD w B o d L ds R) (hb : Below w.heap.size w w') : GridD w' B o d L ds R :=
  ⟨h.len, ownsRow_keep h.outer hb, fun i hi => (h.rows i hi).keep hb, h.apart, h.row.keep hb, h.off⟩
/-- A row laid since is appended to the grid. -/
theorem GridD.snoc {w0 w w1 : World} {B : Nat} {o d o' rv : Value} {L : List (List Int)} {ds xs : List Int} {R : Nat → Value} (h : GridD w0 B o d L ds R) (hb : Below w0.heap.size w0 w) (hB : B ≤ w0.heap.size) (hr : OwnRow 2 w w0.heap.size rv xs) (hl : L.length + 1 ≤ 16)
    (hown : w1.ownsRow B 33 1 o' (L.length + 1) ((List.range L.length).map R ++ [rv])) (hg : w.grownBy w1 o.ownBlock) : GridD w1 B o' d (L ++ [xs]) ds (fun i => if i < L.length then R i else rv) := by
  have hT : 2 ≠ 33 := by decide
  have hown0 := ownsRow_keep h.outer hb
  have eL : (L ++ [xs]).length = L.length + 1 := by simp
  have eR : (List.range (L ++ [xs]).length).map (fun i => if i < L.length then R i else rv) = (List.range L.length).map R ++ [rv] := by
    rw [eL, List.range_succ, List.map_append]
    congr 1
    · apply List.map_congr_left
      intro i hi
      rw [if_pos (by simpa using hi)]
    · simp
  refine ⟨by rw [eL]; exact hl, by rw [eR, eL]; exact hown, ?_, ?_, (h.row.keep hb).grown hown0 hT hg, ?_⟩
  · intro i hi
    rw [eL] at hi
    by_cases h1 : i < L.length
    · simp only [h1, if_true]
      rw [nthR_append_old h1]
      exact ((h.rows i h1).keep hb).grown hown0 hT hg
    · obtain rfl : i = L.length := by omega
      simp only [Nat.lt_irrefl, if_false]
      rw [nthR_append_last]
      exact (hr.mono hB).grown hown0 hT hg
  · intro i j k hij hj hk
    rw [eL] at hj
    have hi : i < L.length := by omega
    simp only [hi, if_true] at hk
    by_cases h1 : j < L.length
    · simp only [h1, if_true]
      exact h.apart i j k hij h1 hk
    · simp only [h1, if_false]
      intro e
      have := (h.rows i hi).lt k hk
      have := hr.lt k e
      omega
  · intro i k hi hk hd
    rw [eL] at hi
    by_cases h1 : i < L.length
    · simp only [h1, if_true] at hk
      exact h.off i k h1 hk hd
    · simp only [h1, if_false] at hk
      have := (h.row.lt k hd).2
      have := (hr.lt k hk).1
      omega
/-- Numbers are appended to the row. -/
theorem GridD.more {w w1 : World} {B g cap : Nat} {o d : Value} {L : List (List Int)} {ds ns : List Int} {R : Nat → Value} (h : GridD w B o d L ds R) (hm : ds.length + ns.length ≤ maxLen) (hi : ∀ x ∈ ns, I64 x)
    (hown : w1.ownsRow B 2 1 (.slice (some ⟨g, 0, none⟩) (ds.length + ns.length) cap) (ds.length + ns.length) (ds.map (Value.int .i64) ++ ns.map (Value.int .i64))) (hg : w.grownBy w1 d.ownBlock) (hat : d.ownBlock = some g ∨ g = w.heap.size) : GridD w1 B o (.slice (some ⟨g, 0, none⟩) (ds.length + ns.length) cap) L (ds ++ ns) R := by
  have hoth : ∀ k cs T fr, w.heap[k]? = some (.cells cs T fr) → some k ≠ d.ownBlock → w1.heap[k]? = some (.cells cs T fr) := fun k cs T fr hk hne => (hg.block k (Array.getElem?_eq_some_iff.1 hk).1 hne).trans hk
  refine ⟨h.len, ?_, fun i hi => (h.rows i hi).far' hg (fun k hk e => h.off i k hi hk e.symm), h.apart, OwnRow.of_ownsRow (n := ds.length + ns.length) (by rw [List.map_append]; exact hown) (by simpa using hm) (fun x hx => ?_), ?_⟩
  · refine ⟨h.outer.1, ?_⟩
    rcases h.outer.2 with h1 | ⟨g', cap', cur', e, hgB, hh, r⟩
    · exact Or.inl h1
    · refine Or.inr ⟨g', cap', cur', e, hgB, hoth _ _ _ _ hh (fun e2 => ?_), r⟩
      rcases h.row.2.2 with ⟨e3, _⟩ | ⟨g3, cap3, cur3, e3, _, hh3, _⟩
      · rw [e3] at e2; simp [Value.ownBlock] at e2
      · rw [e3] at e2
        simp [Value.ownBlock] at e2
        subst e2
        rw [hh] at hh3
        simp at hh3
  · rcases List.mem_append.1 hx with hx | hx
    · exact h.row.1 x hx
    · exact hi x hx
  · intro i k hil hk hd
    simp only [Value.ownBlock, Option.some.injEq] at hd
    subst hd
    rcases hat with hat | hat
    · exact h.off i g hil hk hat
    · have := ((h.rows i hil).lt g hk).2
      omega

/-- What PartsOf answers. -/
noncomputable def partsL (L : List (List Int)) : List (List Int) := if GraphP L then (partsM (nearB L) L.length L.length).map listM else []
theorem partsL_small (L : List (List Int)) : Small (partsL L) := by
  unfold partsL
  split
  · rename_i hG
    have hz := hG.1
    have hl := partsM_len (nearB L) L.length L.length
    refine ⟨by rw [List.length_map]; omega, fun i hi => ?_⟩
    rw [List.length_map] at hi
    have : nthR ((partsM (nearB L) L.length L.length).map listM) i = listM ((partsM (nearB L) L.length L.length)[i]) := by simp [nthR, hi]
    rw [this]
    have := listM_len ((partsM (nearB L) L.length L.length)[i])
    omega
  · exact ⟨by simp, fun i hi => absurd hi (by simp)⟩

theorem gaveNoGrid {w w' : World} (h : Below w.heap.size w w') : GaveGrid w [] (.returned (.slice (some ⟨w'.heap.size, 0, none⟩) 0 0)) (w'.alloc (.cells #[] 33)) :=
  ⟨0, _, 0, rfl, own_none w' w.heap.size h.size, h.alloc h.size _⟩

end Go.Proofs.YtohjfcfcopbmoaaGreatDoor

/- Walks: the iterator over the parts. -/
namespace Go.Proofs.YtohjfcfcopbmoaaGreatDoor
open Go.RowKit Go.Shelf
attribute [local go_sem] Oper.semAt_some

/-- The vertices below k that begin a part. -/
noncomputable def headsTo (A : Nat → Nat → Bool) (n k : Nat) : List Nat := (List.range k).filter (fun v => headN A n v == v)
theorem headsTo_map (A : Nat → Nat → Bool) (n k : Nat) : (headsTo A n k).map (compN A n) = partsM A n k := rfl
theorem headsTo_len (A : Nat → Nat → Bool) (n k : Nat) : (headsTo A n k).length ≤ k := by
  have := List.length_filter_le (fun v => headN A n v == v) (List.range k)
  rwa [List.length_range] at this
theorem headsTo_succ {A : Nat → Nat → Bool} {n k : Nat} (h : headN A n k = k) : headsTo A n (k + 1) = headsTo A n k ++ [k] := by
  unfold headsTo
  rw [List.range_succ, List.filter_append]
  simp [h]
theorem headsTo_same {A : Nat → Nat → Bool} {n i j : Nat} (hij : i ≤ j) (h : ∀ v, i ≤ v → v < j → headN A n v ≠ v) : headsTo A n j = headsTo A n i := by
  induction j with
  | zero => obtain rfl : i = 0 := by omega
            rfl
  | succ j ih =>
    by_cases e : i = j + 1
    · subst e; rfl
    · have : headsTo A n (j + 1) = headsTo A n j := by
        unfold headsTo
        rw [List.range_succ, List.filter_append]
        simp [h j (by omega) (by omega)]
      rw [this]
      exact ih (by omega) (fun v h1 h2 => h v h1 (by omega))

/-- A part, as yield takes it. -/
noncomputable def encM (A : Nat → Nat → Bool) (n v : Nat) : Array Value := #[.int .u32 (compN A n v : Int)]

/-- What the iterator reads. -/
structure PartIn (w : World) (pt bn n : Nat) (M : Nat → Nat) : Prop where
  t : w.cell? ⟨pt, 0, none⟩ = some (.pointer (some ⟨bn, 0, none⟩))
  net : NetAt w bn n M
  tab : TabAt w
theorem PartIn.keep {w w' : World} {pt bn n : Nat} {M : Nat → Nat} (h : PartIn w pt bn n M) (hb : Below w.heap.size w w') : PartIn w' pt bn n M := ⟨cell_keep hb h.t, h.net.keep hb, h.tab.keep hb⟩
theorem PartIn.but {w w' : World} {pt bn n : Nat} {M : Nat → Nat} (h : PartIn w pt bn n M) (hb : KeepsBut (fun k => k ≠ pt ∧ k ≠ bn ∧ k ≠ 4) w w') : PartIn w' pt bn n M :=
  ⟨hb.cell (fun h => h.1 rfl) h.t, ⟨hb.cell (fun h => h.2.1 rfl) h.net.1, fun i hi => hb.cell (fun h => h.2.1 rfl) (h.net.2 i hi)⟩, fun i hi => hb.cell (fun h => h.2.2 rfl) (h.tab i hi)⟩

theorem grown_of_below {A B : World} (h : Below A.heap.size A B) : A.grownBy B none := ⟨h.os, h.tape, h.output, h.size, fun k hk _ => h.block k hk⟩

end Go.Proofs.YtohjfcfcopbmoaaGreatDoor

/- Walks: PartsOf, of the program. -/
namespace Go.Proofs.YtohjfcfcopbmoaaGreatDoor
open Go.RowKit Go.Shelf
attribute [local go_sem] Oper.semAt_some

theorem OwnRow.kept {T : TypeId} {w w' : World} {B : Nat} {v : Value} {xs : List Int} (h : OwnRow T w B v xs) (hk : ∀ (k : Nat) (cs : Array Value) (fr : Nat × Nat), w.heap[k]? = some (Obj.cells cs T fr) → w'.heap[k]? = some (Obj.cells cs T fr)) : OwnRow T w' B v xs := by
  obtain ⟨h1, h2, h3⟩ := h
  refine ⟨h1, h2, ?_⟩
  rcases h3 with h3 | ⟨g, cap, cur, e, hg, hh, r⟩
  · exact Or.inl h3
  · exact Or.inr ⟨g, cap, cur, e, hg, hk _ _ _ hh, r⟩
theorem OwnGrid.kept {T T1 : TypeId} {w w' : World} {B : Nat} {v : Value} {L : List (List Int)} (h : OwnGrid T T1 w B v L) (hk : ∀ (k : Nat) (cs : Array Value) (U : TypeId) (fr : Nat × Nat), U = T ∨ U = T1 → w.heap[k]? = some (Obj.cells cs U fr) → w'.heap[k]? = some (Obj.cells cs U fr)) : OwnGrid T T1 w' B v L := by
  obtain ⟨R, h2, h3, h4, h5⟩ := h
  refine ⟨R, h2, ?_, fun i hi => (h4 i hi).kept (fun k cs fr h => hk k cs T fr (.inl rfl) h), h5⟩
  rcases h3 with h3 | ⟨g, cap, cur, e, hg, hh, r⟩
  · exact Or.inl h3
  · exact Or.inr ⟨g, cap, cur, e, hg, hk _ _ _ _ (.inr rfl) hh, r⟩

/-- The program's list of parts, half done. -/
def PI (w : World) (bx B bn : Nat) (L : List (List Int)) (W : World) : Prop :=
  W.heap[bx + 1]? = some (.cells #[.pointer (some ⟨bn, 0, none⟩)] 191 (0, 0)) ∧ (∃ val, W.heap[bx]? = some (.cells #[val] 24 (0, 0)) ∧ OwnGrid 2 33 W B val L) ∧ Below w.heap.size w W
theorem PI.own {β : Type} (w : World) (bx B bn C : Nat) (f : β → List (List Int)) (hC : w.heap.size ≤ C) : OwnFrom C (fun s W => PI w bx B bn (f s) W) := by
  rintro s W W' row ⟨hpt, ⟨val, hb, hg⟩, hbel⟩ hgr hr
  have hk : ∀ (k : Nat) (cs : Array Value) (U : TypeId) (fr : Nat × Nat), W.heap[k]? = some (Obj.cells cs U fr) → W'.heap[k]? = some (Obj.cells cs U fr) := fun k cs U fr h => by
    refine (hgr.block k (Array.getElem?_eq_some_iff.1 h).1 ?_).trans h
    intro e
    obtain ⟨_, o, ho, hc⟩ := hr k e.symm
    rw [h] at ho; cases ho; simp [Obj.isCells] at hc
  refine ⟨hk _ _ _ _ hpt, ⟨val, hk _ _ _ _ hb, hg.kept (fun k cs U fr _ h => hk k cs U fr h)⟩, ?_⟩
  exact hbel.trans ⟨hgr.os, hgr.tape, hgr.output, hgr.size, fun k hk' => hgr.block k (by have := hbel.size; omega) (fun e => by have := (hr k e.symm).1; omega)⟩

section
variable {F : Fence} {n : Nat} {P : Program} {ops : Array Oper} {Q : Exit → Act → World → Prop}
theorem anyIn_one {fuel : Nat} {listed : Array Bool} {a : Act} {w : World} (i : Nat) (hr : Region.ready .any ops listed = [i]) (h : wpOpIn F n P ops Q i (wpAnyIn F n P .any ops Q fuel (listed.setIfInBounds i true)) a w) : wpAnyIn F n P .any ops Q (fuel + 1) listed a w := by
  refine ⟨fun h0 => (by rw [hr] at h0; cases h0), fun k hk => ?_⟩
  rw [hr] at hk
  simp at hk
  subst hk
  exact h
theorem anyIn_two {fuel : Nat} {listed : Array Bool} {a : Act} {w : World} (i j : Nat) (hr : Region.ready .any ops listed = [i, j]) (h : wpOpIn F n P ops Q i (wpAnyIn F n P .any ops Q fuel (listed.setIfInBounds i true)) a w)
    (h' : wpOpIn F n P ops Q j (wpAnyIn F n P .any ops Q fuel (listed.setIfInBounds j true)) a w) : wpAnyIn F n P .any ops Q (fuel + 1) listed a w := by
  refine ⟨fun h0 => (by rw [hr] at h0; cases h0), fun k hk => ?_⟩
  rw [hr] at hk
  simp at hk
  rcases hk with rfl | rfl
  · exact h
  · exact h'
theorem opIn_at {i : Nat} {o : Oper} {K : Act → World → Prop} {a : Act} {w : World} (ho : ops[i]? = some o) (hg : o.guard = none) (h : o.wpIn F n P a w K Q) : wpOpIn F n P ops Q i K a w := by
  unfold wpOpIn
  rw [ho]
  have hw : Region.wanted o (yielded ops a.tmps) = true := by simp [Region.wanted, hg]
  simp only [hw, if_true]
  exact h
theorem wpIn_append_own (w : World) {o : Oper} {a : Act} {K : Act → World → Prop} (s x : Operand) (t : TypeId) (hop : o.op = Op.call { callee := Callee.builtin Builtin.append, args := #[s, x], argTypes := #[t, t] })
    (base : Nat) (e : TypeId) (i : TypeInfo) (z : Value) (size bytes : Nat) (h1 : P.underlying t = some (.slice e)) (h2 : P.info? e = some i) (h3 : i.zero = some z) (h4 : i.size = size) (h5 : i.bytes = bytes) (h6 : z.cells.size = size) (h7 : 0 < size)
    (v : Value) (k : Nat) (xs : List Value) (hs : a.eval s = v) (hown : w.ownsRow base e size v k xs) (ad : Addr) (m c : Nat) (news : List Value) (hx : a.eval x = .slice (some ad) m c) (hn : news.length = m * size)
    (hc : ∀ j u, news[j]? = some u → w.cell? (ad.add j) = some u) (h1c : ∀ u ∈ news, u.oneCell' = true) (b1 : k + m ≤ maxLen) (b2 : (k + m) * bytes ≤ 140737488355328) (b3 : base ≤ w.heap.size)
    (hK : ∀ v' w', w'.ownsRow base e size v' (k + m) (xs ++ news) → w.grownBy w' v.ownBlock → K (a.put o.dst v') w') : o.wpIn F n P a w K Q := by
  obtain ⟨v', w', hrun, r1, r2, r3⟩ := run_append_own (P := P) w base t o.type e i z size bytes h1 h2 h3 h4 h5 h6 h7 v k xs hown ad m c news hn hc h1c b1 b2 b3
  unfold Oper.wpIn
  refine ⟨?_, ?_⟩
  · simp [Oper.about, hop, resolve, Target.leads, Sem.run_pure]
  · rw [Oper.semAt_plain F _ _ (by rw [hop]; intro c hc'; cases hc')]
    simp [execOp, hop, resolve, invoke, builtin, hs, hx, hrun, Result.andThen]
    exact hK v' w' r1 r2
end

end Go.Proofs.YtohjfcfcopbmoaaGreatDoor

/- Walks: what is in one of both; a graph drawn. -/
namespace Go.Proofs.YtohjfcfcopbmoaaGreatDoor
open Go.RowKit

theorem bothM_bit (xs ys : List Int) (k : Nat) (hk : k < 16) : (bothM xs ys).testBit k = (hasB xs (k : Int) || hasB ys (k : Int)) := by
  unfold bothM
  rw [pm_bit, decide_eq_true hk]
  rfl

theorem lit_one (w : World) (x : Int) (T : TypeId) : ∀ j u, ([Value.int .i64 x] : List Value)[j]? = some u → (w.alloc (.cells #[.int .i64 x] T)).cell? ((⟨w.heap.size, 0, none⟩ : Addr).add j) = some u := by
  intro j u hj
  match j, hj with
  | 0, hj => simp at hj; subst hj; simp [Addr.add]
theorem one_one (x : Int) : ∀ u ∈ ([Value.int .i64 x] : List Value), u.oneCell' = true := by
  intro u hu; simp at hu; subst hu; rfl

end Go.Proofs.YtohjfcfcopbmoaaGreatDoor
