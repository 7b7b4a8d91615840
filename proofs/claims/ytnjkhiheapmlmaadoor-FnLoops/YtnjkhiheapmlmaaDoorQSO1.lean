/- The texts SO1, SO2, joined. -/
import Derived.Test.YtnjkhiheapmlmaaDoorQZ1
import Derived.Test.YtnjkhiheapmlmaaDoorQZ3
import Derived.Test.YtnjkhiheapmlmaaDoorQFP1
import Derived.Test.YtnjkhiheapmlmaaDoorQW2
import Derived.Test.YtnjkhiheapmlmaaDoorQGrid
import Derived.Test.YtnjkhiheapmlmaaDoorQH0
import Derived.BigRegion

/- Plain facts: the two sides of a graph. -/
namespace Go.Proofs.YtnjkhiheapmlmaaDoor
open Go.RowKit

/-- The i-th vertex that begins a part. -/
noncomputable def hdN (L : List (List Int)) (i : Nat) : Nat := (headsTo (nearB L) L.length L.length).getD i 0
/-- How many parts there are. -/
noncomputable def hdM (L : List (List Int)) : Nat := (headsTo (nearB L) L.length L.length).length
/-- The side of a vertex. -/
noncomputable def sideV (L : List (List Int)) (v : Nat) : Int := dOf (nearB L) (allS L.length) (headN (nearB L) L.length v) v % 2
/-- All sides. -/
noncomputable def sideL (L : List (List Int)) : List Int := (List.range L.length).map (sideV L)
/-- No two neighbours have one side. -/
def ApartP (L : List (List Int)) : Prop := ∀ u v, u < L.length → v < L.length → adjB L u v = true → sideV L u ≠ sideV L v
open Classical in
noncomputable def soB (L : List (List Int)) : Bool := decide (GraphP L ∧ ApartP L)
/-- What SidesOf answers. -/
noncomputable def soL (L : List (List Int)) : List Int := if soB L = true then sideL L else []
open Classical in
theorem soB_no {L : List (List Int)} (h : ¬ (GraphP L ∧ ApartP L)) : soB L = false := by unfold soB; exact decide_eq_false h
open Classical in
theorem soB_yes {L : List (List Int)} (h : GraphP L) (h' : ApartP L) : soB L = true := by unfold soB; exact decide_eq_true ⟨h, h'⟩
theorem soL_no {L : List (List Int)} (h : soB L = false) : soL L = [] := by unfold soL; rw [if_neg (by rw [h]; exact Bool.false_ne_true)]
theorem soL_yes {L : List (List Int)} (h : soB L = true) : soL L = sideL L := by unfold soL; rw [if_pos h]
theorem sideL_len (L : List (List Int)) : (sideL L).length = L.length := by simp [sideL]
theorem sideL_nth {L : List (List Int)} {v : Nat} (h : v < L.length) : nth (sideL L) v = sideV L v := by
  unfold nth sideL
  rw [List.getD_eq_getElem?_getD, List.getElem?_map, List.getElem?_range h]
  rfl
theorem sideV_rng (L : List (List Int)) (v : Nat) : 0 ≤ sideV L v ∧ sideV L v < 2 := by unfold sideV; omega
open Classical in
theorem soL_small (L : List (List Int)) : (soL L).length ≤ 1048576 := by
  cases h : soB L with
  | false => rw [soL_no h]; simp
  | true =>
    rw [soL_yes h, sideL_len]
    unfold soB at h
    have := (decide_eq_true_iff.1 h).1.1
    omega
theorem hdN_mem {L : List (List Int)} {i : Nat} (hi : i < hdM L) : hdN L i < L.length ∧ headN (nearB L) L.length (hdN L i) = hdN L i := by
  have : hdN L i ∈ headsTo (nearB L) L.length L.length := by
    unfold hdN
    unfold hdM at hi
    rw [List.getD_eq_getElem?_getD, List.getElem?_eq_getElem hi]
    exact List.getElem_mem hi
  unfold headsTo at this
  rw [List.mem_filter, List.mem_range, beq_iff_eq] at this
  exact this
theorem partsL_eq {L : List (List Int)} (hG : GraphP L) : partsL L = (headsTo (nearB L) L.length L.length).map (fun v => listM (compN (nearB L) L.length v)) := by
  unfold partsL
  rw [if_pos hG, ← headsTo_map, List.map_map]
  rfl
theorem partsL_len {L : List (List Int)} (hG : GraphP L) : (partsL L).length = hdM L := by rw [partsL_eq hG, List.length_map]; rfl
theorem partsL_nth {L : List (List Int)} (hG : GraphP L) {i : Nat} (hi : i < hdM L) : nthR (partsL L) i = listM (compN (nearB L) L.length (hdN L i)) := by
  unfold hdM at hi
  rw [partsL_eq hG]
  unfold nthR hdN
  rw [List.getD_eq_getElem?_getD, List.getD_eq_getElem?_getD, List.getElem?_map, List.getElem?_eq_getElem hi]
  rfl
theorem hdM_le (L : List (List Int)) : hdM L ≤ L.length := headsTo_len _ _ _
theorem head_all {L : List (List Int)} (hG : GraphP L) {v : Nat} (hv : v < L.length) : ∃ i, i < hdM L ∧ headN (nearB L) L.length v = hdN L i := by
  obtain ⟨_, _, h3, h4⟩ := headN_spec (nearB_symm hG) hG.1.2 hv
  have : headN (nearB L) L.length v ∈ headsTo (nearB L) L.length L.length := by
    unfold headsTo
    rw [List.mem_filter, List.mem_range, beq_iff_eq]
    exact ⟨h4, h3⟩
  obtain ⟨i, hi, e⟩ := List.getElem_of_mem this
  refine ⟨i, hi, ?_⟩
  unfold hdN
  rw [List.getD_eq_getElem?_getD, List.getElem?_eq_getElem hi, ← e]
  rfl
theorem comp_in {L : List (List Int)} (hG : GraphP L) {i v : Nat} (hi : i < hdM L) (h : (compN (nearB L) L.length (hdN L i)).testBit v = true) : v < L.length ∧ headN (nearB L) L.length v = hdN L i ∧ ∃ k, AtD (nearB L) (allS L.length) (hdN L i) k v := by
  have hr := (compN_bit hG.1.2 _ _).1 h
  obtain ⟨h1, h2⟩ := hdN_mem hi
  refine ⟨(allS_iff _ _).1 hr.mem, ?_, reach_at.1 hr⟩
  rw [headN_eq (nearB_symm hG) hG.1.2 hr, h2]
theorem part_at {L : List (List Int)} (hG : GraphP L) {i k : Nat} (hi : i < hdM L) (hk : k < (nthR (partsL L) i).length) : ∃ v : Nat, nth (nthR (partsL L) i) k = (v : Int) ∧ v < L.length ∧ headN (nearB L) L.length v = hdN L i ∧ 0 ≤ dOf (nearB L) (allS L.length) (hdN L i) v ∧ dOf (nearB L) (allS L.length) (hdN L i) v < 16 := by
  rw [partsL_nth hG hi] at hk ⊢
  obtain ⟨v, _, hb, e⟩ := (listM_mem _ _).1 (nth_mem hk)
  obtain ⟨h1, h2, d, hd⟩ := comp_in hG hi hb
  refine ⟨v, e.symm, h1, h2, dOf_nonneg.2 ⟨d, hd⟩, ?_⟩
  have := dOf_lt (A := nearB L) (S := allS L.length) (v := hdN L i) (n := L.length) (fun u hu => (allS_iff _ _).1 hu) v
  have := hG.1.2
  omega
theorem part_all {L : List (List Int)} (hG : GraphP L) {i v : Nat} (hi : i < hdM L) (hv : v < L.length) (h : headN (nearB L) L.length v = hdN L i) : ∃ k, k < (nthR (partsL L) i).length ∧ nth (nthR (partsL L) i) k = (v : Int) := by
  obtain ⟨_, hr, _, _⟩ := headN_spec (nearB_symm hG) hG.1.2 hv
  rw [h] at hr
  have hb := (compN_bit hG.1.2 _ _).2 (hr.symm (nearB_symm hG))
  rw [partsL_nth hG hi]
  have hm : (v : Int) ∈ listM (compN (nearB L) L.length (hdN L i)) := (listM_mem _ _).2 ⟨v, by have := hG.1.2; omega, hb, rfl⟩
  obtain ⟨k, hk, e⟩ := List.getElem_of_mem hm
  exact ⟨k, hk, by rw [nth_eq hk, e]⟩
theorem part_first {L : List (List Int)} (hG : GraphP L) {i : Nat} (hi : i < hdM L) : 0 < (nthR (partsL L) i).length ∧ nth (nthR (partsL L) i) 0 = (hdN L i : Int) := by
  obtain ⟨h1, h2⟩ := hdN_mem hi
  obtain ⟨k, hk, e⟩ := part_all hG hi h1 h2
  have h0 : 0 < (nthR (partsL L) i).length := by omega
  refine ⟨h0, ?_⟩
  obtain ⟨v, e0, hv, hh, _⟩ := part_at hG hi h0
  have hle : hdN L i ≤ v := by have := (headN_spec (nearB_symm hG) hG.1.2 hv).1; rw [hh] at this; exact this
  have hst := listM_set (compN (nearB L) L.length (hdN L i))
  rw [← partsL_nth hG hi] at hst
  have mono : ∀ k, k < (nthR (partsL L) i).length → nth (nthR (partsL L) i) 0 ≤ nth (nthR (partsL L) i) k := by
    intro k
    induction k with
    | zero => intro _; exact Int.le_refl _
    | succ k ih =>
      intro hk
      have h3 := (hst (k + 1) hk).2.2 (by omega)
      rw [Nat.add_sub_cancel] at h3
      have := ih (by omega)
      omega
  have := mono k hk
  rw [e0, e] at this
  rw [e0]
  omega
theorem part_len {L : List (List Int)} (hG : GraphP L) {i : Nat} (hi : i < hdM L) : (nthR (partsL L) i).length ≤ 16 := by rw [partsL_nth hG hi]; exact listM_len _

/-- The sides of the first i parts have been written. -/
def SideTo (L : List (List Int)) (i : Nat) (ys : List Int) : Prop := ys.length = L.length ∧ (∀ x ∈ ys, 0 ≤ x ∧ x < 2) ∧ ∀ v, v < L.length → ∀ j, j < i → headN (nearB L) L.length v = hdN L j → nth ys v = sideV L v
/-- .. and the first k of the next. -/
def SideIn (L : List (List Int)) (i k : Nat) (ys : List Int) : Prop := SideTo L i ys ∧ ∀ q, q < k → nth ys (nth (nthR (partsL L) i) q).toNat = sideV L (nth (nthR (partsL L) i) q).toNat
theorem sideTo_start (L : List (List Int)) : SideTo L 0 (List.replicate L.length 0) := ⟨by simp, fun x hx => by rw [List.mem_replicate] at hx; omega, fun v _ j hj => absurd hj (by omega)⟩
theorem sideIn_start {L : List (List Int)} {i : Nat} {ys : List Int} (h : SideTo L i ys) : SideIn L i 0 ys := ⟨h, fun q hq => absurd hq (by omega)⟩
theorem sideIn_end {L : List (List Int)} (hG : GraphP L) {i : Nat} (hi : i < hdM L) {ys : List Int} (h : SideIn L i (nthR (partsL L) i).length ys) : SideTo L (i + 1) ys := by
  refine ⟨h.1.1, h.1.2.1, fun v hv j hj e => ?_⟩
  rcases Nat.lt_succ_iff_lt_or_eq.1 hj with hj | rfl
  · exact h.1.2.2 v hv j hj e
  · obtain ⟨k, hk, ek⟩ := part_all hG hi hv e
    have := h.2 k hk
    rwa [ek, Int.toNat_natCast] at this
theorem sideTo_end {L : List (List Int)} (hG : GraphP L) {ys : List Int} (h : SideTo L (hdM L) ys) : ys = sideL L := by
  refine nth_ext (by rw [h.1, sideL_len]) (fun v hv => ?_)
  rw [h.1] at hv
  obtain ⟨j, hj, e⟩ := head_all hG hv
  rw [sideL_nth hv]
  exact h.2.2 v hv j hj e
theorem sideTo_set {L : List (List Int)} {i : Nat} {ys : List Int} (h : SideTo L i ys) {v : Nat} (hv : v < L.length) : SideTo L i (ys.set v (sideV L v)) := by
  refine ⟨by simp [h.1], fun x hx => ?_, fun u hu j hj e => ?_⟩
  · rcases List.mem_or_eq_of_mem_set hx with hx | rfl
    · exact h.2.1 x hx
    · exact sideV_rng _ _
  · by_cases e1 : v = u
    · subst e1; rw [nth_set_same (by rw [h.1]; exact hv)]
    · rw [nth_set_other e1]; exact h.2.2 u hu j hj e
theorem sideIn_set {L : List (List Int)} {i k v : Nat} {ys : List Int} (h : SideIn L i k ys) (hv : v < L.length) (e : nth (nthR (partsL L) i) k = (v : Int)) : SideIn L i (k + 1) (ys.set v (sideV L v)) := by
  refine ⟨sideTo_set h.1 hv, fun q hq => ?_⟩
  have hs : nth (ys.set v (sideV L v)) v = sideV L v := nth_set_same (by rw [h.1.1]; exact hv) _
  rcases Nat.lt_succ_iff_lt_or_eq.1 hq with hq | rfl
  · by_cases e1 : v = (nth (nthR (partsL L) i) q).toNat
    · rw [← e1]; exact hs
    · rw [nth_set_other e1]; exact h.2 q hq
  · rw [e, Int.toNat_natCast]; exact hs
theorem sideV_of {L : List (List Int)} {i v : Nat} (h : headN (nearB L) L.length v = hdN L i) : dOf (nearB L) (allS L.length) (hdN L i) v % 2 = sideV L v := by unfold sideV; rw [h]

/-- A row of one's own has been handed back, and a plain yes or no. -/
def GaveRB (w : World) (xs : List Int) (ok : Bool) (e : Ending) (w' : World) : Prop :=
  ∃ m a c, e = .returned (.tuple #[.slice a m c, .bool ok]) ∧ OwnRow 2 w' w.heap.size (.slice a m c) xs ∧ Below w.heap.size w w'

end Go.Proofs.YtnjkhiheapmlmaaDoor

/- Walks: SidesOf, of the model. -/
namespace Go.Proofs.YtnjkhiheapmlmaaDoor
open Go.RowKit

theorem dfL_head {L : List (List Int)} (hG : GraphP L) {i : Nat} (hi : i < hdM L) : dfL L (hdN L i : Int) = distL L.length (nearB L) (allS L.length) (hdN L i) := by
  have h1 := (hdN_mem hi).1
  have : inB (hdN L i : Int) 0 ((L.length : Int) - 1) = true := by simp [inB]; omega
  unfold dfL dfB
  rw [decide_eq_true hG, this, Int.toNat_natCast]
  rfl
theorem edge_at {L : List (List Int)} (hG : GraphP L) {i : Nat} (hi : i < (edgesTo L L.length).length) : ∃ u v : Nat, nthR (edgesTo L L.length) i = [(u : Int), (v : Int)] ∧ u < L.length ∧ v < L.length ∧ adjB L u v = true := by
  obtain ⟨u, hu, x, hx, _, e⟩ := (edgesTo_mem L.length _).1 (nthR_mem hi)
  have hst := (hG.2.1 u hu).1
  obtain ⟨k, hk, ek⟩ := List.getElem_of_mem hx
  obtain ⟨h1, h2, _⟩ := hst k hk
  rw [nth_eq hk, ek] at h1 h2
  refine ⟨u, x.toNat, ?_, hu, by omega, ?_⟩
  · rw [e, show ((x.toNat : Nat) : Int) = x by omega]
  · rw [← adjB_has hG hu (by have := hG.1.2; omega), show ((x.toNat : Nat) : Int) = x by omega]
    exact (hasB_mem _ _).2 hx
theorem edge_has {L : List (List Int)} (hG : GraphP L) {u v : Nat} (hu : u < L.length) (hv : v < L.length) (h : adjB L u v = true) (hlt : u < v) : ∃ i, i < (edgesTo L L.length).length ∧ nthR (edgesTo L L.length) i = [(u : Int), (v : Int)] := by
  have hm : (v : Int) ∈ nthR L u := (hasB_mem _ _).1 (by rw [adjB_has hG hu (by have := hG.1.2; omega)]; exact h)
  have : [(u : Int), (v : Int)] ∈ edgesTo L L.length := (edgesTo_mem L.length _).2 ⟨u, hu, _, hm, by omega, rfl⟩
  obtain ⟨i, hi, e⟩ := List.getElem_of_mem this
  exact ⟨i, hi, by rw [nthR_eq hi, e]⟩
theorem apart_edges {L : List (List Int)} (hG : GraphP L) (h : ∀ i, i < (edgesTo L L.length).length → ∀ u v : Nat, nthR (edgesTo L L.length) i = [(u : Int), (v : Int)] → sideV L u ≠ sideV L v) : ApartP L := by
  intro u v hu hv ha
  rcases Nat.lt_trichotomy u v with hl | hl | hl
  · obtain ⟨i, hi, e⟩ := edge_has hG hu hv ha hl
    exact h i hi u v e
  · subst hl; rw [adjB_self hG] at ha; cases ha
  · obtain ⟨i, hi, e⟩ := edge_has hG hv hu (by rw [adjB_sym hG]; exact ha) hl
    exact fun e' => h i hi v u e e'.symm

theorem rowAt_two {w : World} {v : Value} {x y : Int} (h : RowAt w v [x, y]) : ∃ b o c, v = .slice (some ⟨b, o, none⟩) 2 c ∧ 2 ≤ c ∧ w.cell? ⟨b, o, none⟩ = some (.int .i64 x) ∧ w.cell? ⟨b, o + 1, none⟩ = some (.int .i64 y) := by
  obtain ⟨b, o, c, e, l1, l2, hc⟩ := h.pos (by simp)
  exact ⟨b, o, c, e, l1, hc 0 (by simp), hc 1 (by simp)⟩

end Go.Proofs.YtnjkhiheapmlmaaDoor
