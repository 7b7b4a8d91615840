/- The texts F4, F5, joined. -/
import Derived.Test.YtohjfcfcopbmoaaDoorQF1
import Derived.Test.YtohjfcfcopbmoaaDoorQGrid
import Derived.Test.YtohjfcfcopbmoaaDoorQMark
import Derived.Deep.RegionLaw
import Derived.Deep.RegionWith
import Derived.Deep.DeepCutAuto

/- Plain facts: a mask's list; a row of one's own grid put anew. -/
namespace Go.Proofs.YtohjfcfcopbmoaaDoor
open Go.RowKit

/-- The vertices of a mask, rising. -/
def listM (M : Nat) : List Int := ((List.range 16).filter (fun i => M.testBit i)).map (fun i : Nat => (i : Int))
theorem listM_mem (M : Nat) (x : Int) : x ∈ listM M ↔ ∃ i : Nat, i < 16 ∧ M.testBit i = true ∧ (i : Int) = x := by
  unfold listM
  simp only [List.mem_map, List.mem_filter, List.mem_range]
  constructor
  · rintro ⟨i, ⟨h1, h2⟩, h3⟩; exact ⟨i, h1, h2, h3⟩
  · rintro ⟨i, h1, h2, h3⟩; exact ⟨i, ⟨h1, h2⟩, h3⟩
theorem listM_set (M : Nat) : SetP (listM M) 16 := by
  refine SetP.mk ?_ ?_
  · unfold listM
    rw [List.pairwise_map]
    refine List.Pairwise.imp ?_ (List.Pairwise.filter _ List.pairwise_lt_range)
    intro a b hab
    omega
  · intro x hx
    obtain ⟨i, h1, _, rfl⟩ := (listM_mem M x).1 hx
    omega
theorem listM_len (M : Nat) : (listM M).length ≤ 16 := by
  unfold listM
  rw [List.length_map]
  have := List.length_filter_le (fun i => M.testBit i) (List.range 16)
  rw [List.length_range] at this
  exact this
theorem listM_zero : listM 0 = [] := by simp [listM]
theorem listM_i64 (M : Nat) : ∀ x ∈ listM M, I64 x := by
  intro x hx
  obtain ⟨i, h1, _, rfl⟩ := (listM_mem M x).1 hx
  unfold I64; omega

theorem sets_eq {xs ys : List Int} (hx : SetP xs 16) (hy : SetP ys 16) (h : ∀ z, z ∈ xs ↔ z ∈ ys) : xs = ys :=
  set_ext (n := 16) (Nat.le_refl _) hx hy (fun u _ => by rw [Bool.eq_iff_iff, hasB_mem, hasB_mem]; exact h u)

theorem mem_or (M x : Nat) (hx : x < 16) (z : Int) : z ∈ listM (M ||| 2 ^ x) ↔ z ∈ listM M ∨ z = (x : Int) := by
  rw [listM_mem, listM_mem]
  constructor
  · rintro ⟨i, h1, h2, h3⟩
    rw [Nat.testBit_or, Bool.or_eq_true, Nat.testBit_two_pow, decide_eq_true_iff] at h2
    rcases h2 with h2 | h2
    · exact Or.inl ⟨i, h1, h2, h3⟩
    · right; omega
  · rintro (⟨i, h1, h2, h3⟩ | rfl)
    · exact ⟨i, h1, by rw [Nat.testBit_or, h2, Bool.true_or], h3⟩
    · exact ⟨x, hx, by rw [Nat.testBit_or, Nat.testBit_two_pow, decide_eq_true rfl, Bool.or_true], rfl⟩

/-- What stands in a rising list where x was put in. -/
theorem into_list {M x k : Nat} (hx : x < 16) (hk : k ≤ (listM M).length) (hlo : ∀ j, j < k → nth (listM M) j < (x : Int)) (hhi : k = (listM M).length ∨ (x : Int) < nth (listM M) k) :
    (listM M).take k ++ (x : Int) :: (listM M).drop k = listM (M ||| 2 ^ x) := by
  have hp := (listM_set M).pairwise
  have hb := (listM_set M).bounds
  refine sets_eq (SetP.mk ?_ ?_) (listM_set _) ?_
  · rw [List.pairwise_append]
    refine ⟨hp.sublist (List.take_sublist _ _), ?_, ?_⟩
    · rw [List.pairwise_cons]
      refine ⟨?_, hp.sublist (List.drop_sublist _ _)⟩
      intro z hz
      obtain ⟨i, hi, rfl⟩ := List.mem_iff_getElem.1 hz
      rw [List.length_drop] at hi
      rw [List.getElem_drop]
      rcases hhi with e | hlt
      · omega
      · rw [nth_eq (by omega)] at hlt
        by_cases e : i = 0
        · subst e; simpa using hlt
        · have := List.pairwise_iff_getElem.1 hp k (k + i) (by omega) (by omega) (by omega)
          omega
    · intro a ha b hb'
      obtain ⟨i, hi, rfl⟩ := List.mem_iff_getElem.1 ha
      rw [List.length_take] at hi
      rw [List.getElem_take]
      have h1 := hlo i (by omega)
      rw [nth_eq (by omega)] at h1
      rcases List.mem_cons.1 hb' with rfl | hb'
      · exact h1
      · obtain ⟨j, hj, rfl⟩ := List.mem_iff_getElem.1 hb'
        rw [List.length_drop] at hj
        rw [List.getElem_drop]
        exact List.pairwise_iff_getElem.1 hp i (k + j) (by omega) (by omega) (by omega)
  · intro z hz
    rcases List.mem_append.1 hz with hz | hz
    · exact hb z (List.mem_of_mem_take hz)
    · rcases List.mem_cons.1 hz with rfl | hz
      · omega
      · exact hb z (List.mem_of_mem_drop hz)
  · intro z
    rw [mem_or M x hx, List.mem_append, List.mem_cons]
    constructor
    · rintro (h | h | h)
      · exact Or.inl (List.mem_of_mem_take h)
      · exact Or.inr h
      · exact Or.inl (List.mem_of_mem_drop h)
    · rintro (h | h)
      · rw [← List.take_append_drop k (listM M), List.mem_append] at h
        rcases h with h | h
        · exact Or.inl h
        · exact Or.inr (Or.inr h)
      · exact Or.inr (Or.inl h)
theorem into_same {M x k : Nat} (hx : x < 16) (hk : k < (listM M).length) (he : nth (listM M) k = (x : Int)) : listM M = listM (M ||| 2 ^ x) := by
  refine sets_eq (listM_set _) (listM_set _) (fun z => ?_)
  rw [mem_or M x hx]
  constructor
  · exact Or.inl
  · rintro (h | rfl)
    · exact h
    · rw [← he]; exact nth_mem hk

/-- A number put into a row of one's own that lists a mask. -/
def IntoOwn (w : World) (B : Nat) (v : Value) (M x : Nat) (e : Ending) (w' : World) : Prop :=
  ∃ n a c, e = .returned (.slice a n c) ∧ OwnRow 2 w' B (.slice a n c) (listM (M ||| 2 ^ x)) ∧ ((Value.slice a n c).ownBlock = v.ownBlock ∨ ∀ k, (Value.slice a n c).ownBlock = some k → w.heap.size ≤ k) ∧ Below w.heap.size w w'

theorem l1Into_own (v : Value) (M x B : Nat) (w : World) (h : OwnRow 2 w B v (listM M)) (hB : B ≤ w.heap.size) (hx : x < 16) : Calls Tryd.prog 72 #[v, .int .i64 (x : Int)] w (IntoOwn w B v M x) := by
  refine (l1Into_any v (listM M) x w h.row (by unfold I64; omega) (by have := listM_len M; omega)).mono ?_
  rintro e w' ⟨k, hk, hlo, (⟨hlt, he, rfl, hb⟩ | ⟨hhi, n, a, c, rfl, ho, hb⟩)⟩
  · obtain ⟨a, c, e2⟩ := h.row.slice
    refine ⟨_, a, c, by rw [e2], ?_, Or.inl (by rw [e2]), hb⟩
    rw [← e2, ← into_same hx hlt he]
    exact h.keep hb
  · refine ⟨n, a, c, rfl, ?_, Or.inr (fun k hk => (ho.lt k hk).1), hb⟩
    rw [into_list hx hk hlo hhi] at ho
    exact ho.mono hB

/-- A row of one's own grid put anew. -/
theorem OwnGrid.setRow {T T1 : TypeId} {w w' : World} {B g n cap i : Nat} {L : List (List Int)} {rv : Value} {xs : List Int} (hT : T ≠ T1) (h : OwnGrid T T1 w B (.slice (some ⟨g, 0, none⟩) n cap) L) (hb : Below w.heap.size w w') (hi : i < L.length) (hr : OwnRow T w' B rv xs)
    (hblk : ∀ k, rv.ownBlock = some k → w.heap.size ≤ k ∨ w.cell? ⟨g, i, none⟩ = none ∨ ∃ u, w.cell? ⟨g, i, none⟩ = some u ∧ u.ownBlock = some k) :
    OwnGrid T T1 (w'.setCell ⟨g, i, none⟩ rv) B (.slice (some ⟨g, 0, none⟩) n cap) (L.set i xs) := by
  obtain ⟨R, h2, h3, h4, h5⟩ := h
  rcases h3 with ⟨e, _⟩ | ⟨g', cap', cur, e, hg, hh, l1, l2, hs, hc⟩
  · cases e
  · simp only [Value.slice.injEq, Option.some.injEq, Addr.mk.injEq, and_true] at e
    obtain ⟨rfl, rfl, rfl⟩ := e
    obtain ⟨hlt, _⟩ := Array.getElem?_eq_some_iff.1 hh
    have hh' : w'.heap[g]? = some (.cells cur T1 (0, 0)) := by rw [hb.block g hlt]; exact hh
    have hci : w.cell? ⟨g, i, none⟩ = some (R i) := by rw [cell_of_row w g i cur _ _ hh]; exact hc i hi
    have hne : ∀ u ys, OwnRow T w' B u ys → u.ownBlock ≠ some g := by
      intro u ys hu hub
      obtain ⟨c2, hc2⟩ := hu.blk hub
      rw [hh'] at hc2
      simp at hc2
      exact hT hc2.2.symm
    have hlen : (L.set i xs).length = L.length := by simp
    have hnth : ∀ j, nthR (L.set i xs) j = if j = i then xs else nthR L j := by
      intro j
      unfold nthR
      by_cases e : j = i
      · subst e; simp [hi]
      · simp only [e, if_false]
        rw [List.getD_eq_getElem?_getD, List.getD_eq_getElem?_getD, List.getElem?_set_ne (by omega)]
    refine ⟨fun j => if j = i then rv else R j, by rw [hlen]; exact h2, Or.inr ⟨g, cap, cur.setIfInBounds i rv, by rw [hlen], hg, heap_setCell_same w' g i cur T1 rv hh', by rw [hlen]; exact l1, l2, by rw [Array.size_setIfInBounds]; exact hs, fun j hj => ?_⟩, fun j hj => ?_, fun p q k hpq hq hk => ?_⟩
    · rw [hlen] at hj
      rw [Array.getElem?_setIfInBounds]
      by_cases e : i = j
      · subst e
        rw [if_pos rfl, if_pos (by omega)]
        simp
      · rw [if_neg e, hc j hj]
        simp [show ¬ j = i from fun h => e h.symm]
    · rw [hlen] at hj
      rw [hnth j]
      by_cases e : j = i
      · simp only [e, if_true]
        exact hr.setCell (hne rv xs hr) _
      · simp only [e, if_false]
        have := (h4 j hj).keep hb
        exact this.setCell (hne _ _ this) _
    · rw [hlen] at hq
      have fresh : ∀ j, j ≠ i → j < L.length → ∀ k, rv.ownBlock = some k → (R j).ownBlock ≠ some k := by
        intro j hji hjl k hk2 hj2
        rcases hblk k hk2 with h6 | h6 | ⟨u, hu, hub⟩
        · have := ((h4 j hjl).lt k hj2).2; omega
        · rw [hci] at h6; cases h6
        · rw [hci] at hu
          cases hu
          rcases Nat.lt_or_gt_of_ne hji with h7 | h7
          · exact h5 j i k h7 hi hj2 hub
          · exact h5 i j k h7 hjl hub hj2
      simp only at hk ⊢
      by_cases e1 : p = i
      · have e2 : ¬ q = i := by omega
        simp only [e1, if_true] at hk
        simp only [e2, if_false]
        exact fresh q e2 hq k hk
      · simp only [e1, if_false] at hk
        by_cases e2 : q = i
        · simp only [e2, if_true]
          intro h8
          exact fresh p e1 (by omega) k h8 hk
        · simp only [e2, if_false]
          exact h5 p q k hpq hq hk

end Go.Proofs.YtohjfcfcopbmoaaDoor

/- Walks: two vertices joined in the model's graph. -/
namespace Go.Proofs.YtohjfcfcopbmoaaDoor
open Go.RowKit

theorem OwnGrid.place {T T1 : TypeId} {w : World} {B : Nat} {v : Value} {L : List (List Int)} (h : OwnGrid T T1 w B v L) (hl : 0 < L.length) :
    ∃ g cap, v = .slice (some ⟨g, 0, none⟩) L.length cap ∧ B ≤ g ∧ g < w.heap.size ∧ ∀ i, i < L.length → ∃ a n c, w.cell? ⟨g, i, none⟩ = some (.slice a n c) ∧ w.frozen? ⟨g, i, none⟩ = false ∧ OwnRow T w B (.slice a n c) (nthR L i) := by
  obtain ⟨R, h2, h3, h4, h5⟩ := h
  rcases h3 with ⟨e, e'⟩ | ⟨g, cap, cur, e, hg, hh, l1, l2, hs, hc⟩
  · rw [e'] at hl; simp at hl
  · refine ⟨g, cap, e, hg, (Array.getElem?_eq_some_iff.1 hh).1, fun i hi => ?_⟩
    obtain ⟨a, c, e2⟩ := (h4 i hi).row.slice
    refine ⟨a, _, c, by rw [cell_of_row w g i cur _ _ hh, hc i hi, e2], ?_, by rw [← e2]; exact h4 i hi⟩
    simp only [World.frozen?, hh]
    simp

/-- A block of another type than a grid's is none of its blocks. -/
theorem OwnGrid.setType {T T1 T2 : TypeId} {w : World} {B b : Nat} {v : Value} {L : List (List Int)} {cur : Array Value} {z : Nat × Nat} (h : OwnGrid T T1 w B v L) (hb : w.heap[b]? = some (.cells cur T2 z)) (h1 : T2 ≠ T) (h2 : T2 ≠ T1) (i : Nat) (u : Value) : OwnGrid T T1 (w.setCell ⟨b, i, none⟩ u) B v L := by
  obtain ⟨R, k2, k3, k4, k5⟩ := h
  refine ⟨R, k2, ?_, fun j hj => ?_, k5⟩
  · rcases k3 with h | ⟨g, cap, cur', e, hg, hh, l1, l2, hs, hc⟩
    · exact Or.inl h
    · refine Or.inr ⟨g, cap, cur', e, hg, ?_, l1, l2, hs, hc⟩
      rw [heap_setCell_other w ⟨b, i, none⟩ g u (fun e => ?_)]
      · exact hh
      · have e : g = b := e
        subst e
        rw [hh] at hb
        simp at hb
        exact h2 hb.2.1.symm
  · refine (k4 j hj).setCell (fun e => ?_) u
    obtain ⟨c2, hc2⟩ := (k4 j hj).blk e
    have hc2 : w.heap[b]? = _ := hc2
    rw [hb] at hc2
    simp at hc2
    exact h1 hc2.2.1

end Go.Proofs.YtohjfcfcopbmoaaDoor
