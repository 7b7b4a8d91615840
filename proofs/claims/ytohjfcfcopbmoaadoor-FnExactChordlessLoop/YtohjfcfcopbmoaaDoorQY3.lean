/- The texts Y3, Y4, joined. -/
import Derived.Test.YtohjfcfcopbmoaaDoorQW2
import Derived.Test.YtohjfcfcopbmoaaDoorQY1
import Derived.Test.YtohjfcfcopbmoaaDoorQC1
import Derived.Deep.RegionHeld3

/- Walks: ConnectedIn, of the model. -/
namespace Go.Proofs.YtohjfcfcopbmoaaDoor
open Go.RowKit

/-- The first k vertices that can be reached. -/
noncomputable def partTo (A : Nat → Nat → Bool) (S : Nat → Bool) (v k : Nat) : List Int := ((List.range k).filter (fun u => decide (0 ≤ dOf A S v u))).map (fun u : Nat => (u : Int))
theorem partTo_succ (A : Nat → Nat → Bool) (S : Nat → Bool) (v k : Nat) : partTo A S v (k + 1) = partTo A S v k ++ if 0 ≤ dOf A S v k then [(k : Int)] else [] := by
  unfold partTo
  rw [List.range_succ, List.filter_append, List.map_append]
  congr 1
  by_cases h : 0 ≤ dOf A S v k
  · simp [h]
  · simp [h]
theorem partTo_len (A : Nat → Nat → Bool) (S : Nat → Bool) (v k : Nat) : (partTo A S v k).length ≤ k := by
  unfold partTo
  rw [List.length_map]
  have := List.length_filter_le (fun u => decide (0 ≤ dOf A S v u)) (List.range k)
  rwa [List.length_range] at this
theorem partTo_i64 (A : Nat → Nat → Bool) (S : Nat → Bool) (v k : Nat) (hk : k ≤ 16) : ∀ x ∈ partTo A S v k, I64 x := by
  intro x hx
  unfold partTo at hx
  simp only [List.mem_map, List.mem_filter, List.mem_range] at hx
  obtain ⟨u, ⟨h1, _⟩, rfl⟩ := hx
  unfold I64; omega

end Go.Proofs.YtohjfcfcopbmoaaDoor

/- Plain facts: sets and masks, parts and masks; ConnectedIn, of the model. -/
namespace Go.Proofs.YtohjfcfcopbmoaaDoor
open Go.RowKit

theorem set_list {xs : List Int} {n : Nat} (hn : n ≤ 16) (h : SetP xs n) : listM (maskTo xs xs.length) = xs := by
  refine sets_eq (listM_set _) (SetP.mk h.pairwise (fun x hx => by have := h.bounds x hx; omega)) (fun z => ?_)
  have hb := fun i => maskTo_bit xs xs.length i (fun j hj => (h j hj).1)
  rw [listM_mem]
  constructor
  · rintro ⟨i, hi, hb1, rfl⟩
    obtain ⟨j, hj, e⟩ := (hb i).1 hb1
    rw [← e]; exact nth_mem hj
  · intro hz
    have h2 := h.bounds z hz
    obtain ⟨j, hj, e⟩ := List.getElem_of_mem hz
    exact ⟨z.toNat, by omega, (hb _).2 ⟨j, hj, by rw [nth_eq hj, e]; omega⟩, by omega⟩
theorem bitS_mask {xs : List Int} {n : Int} (h : SetP xs n) : bitS (maskTo xs xs.length) = inS xs := by
  funext u
  show (maskTo xs xs.length).testBit u = hasB xs (u : Int)
  rw [Bool.eq_iff_iff, maskTo_bit xs xs.length u (fun j hj => (h j hj).1), hasB_iff]
theorem SetP.first {xs : List Int} {n : Int} (h : SetP xs n) {j : Nat} (hj : j < xs.length) : nth xs 0 ≤ nth xs j := by
  by_cases e : j = 0
  · subst e; exact Int.le_refl _
  · have := List.pairwise_iff_getElem.1 h.pairwise 0 j (by omega) hj (by omega)
    rw [nth_eq hj, nth_eq (by omega)]; omega
theorem least_first {xs : List Int} {n : Nat} (hn : n ≤ 16) (h : SetP xs n) (hx : 0 < xs.length) : maskTo xs xs.length ≠ 0 ∧ maskTo xs xs.length < 65536 ∧ leastM (maskTo xs xs.length) = (nth xs 0).toNat := by
  have hb := fun i => maskTo_bit xs xs.length i (fun j hj => (h j hj).1)
  have hl : maskTo xs xs.length < 65536 := maskTo_lt (n := n) (fun j hj => ⟨(h j hj).1, (h j hj).2.1⟩) (by omega) _ (Nat.le_refl _)
  have h0 := (h 0 hx).1
  have h1 : (maskTo xs xs.length).testBit (nth xs 0).toNat = true := (hb _).2 ⟨0, hx, by omega⟩
  have hne : maskTo xs xs.length ≠ 0 := fun e => by rw [e] at h1; simp at h1
  refine ⟨hne, hl, ?_⟩
  obtain ⟨_, hs2, hs3⟩ := leastM_spec hne hl
  obtain ⟨j, hj, e⟩ := (hb _).1 hs2
  have h2 := h.first hj
  rcases Nat.lt_trichotomy (leastM (maskTo xs xs.length)) (nth xs 0).toNat with hh | hh | hh
  · omega
  · exact hh
  · have := hs3 _ hh; rw [h1] at this; cases this

theorem partTo_mem {A : Nat → Nat → Bool} {S : Nat → Bool} {v k : Nat} (z : Int) : z ∈ partTo A S v k ↔ ∃ u : Nat, u < k ∧ (∃ d, AtD A S v d u) ∧ (u : Int) = z := by
  unfold partTo
  simp only [List.mem_map, List.mem_filter, List.mem_range, decide_eq_true_iff, dOf_nonneg]
  constructor
  · rintro ⟨u, ⟨h1, h2⟩, h3⟩; exact ⟨u, h1, h2, h3⟩
  · rintro ⟨u, h1, h2, h3⟩; exact ⟨u, ⟨h1, h2⟩, h3⟩
theorem partTo_list {A : Nat → Nat → Bool} {S : Nat → Bool} {v n : Nat} (hn : n ≤ 16) (hS : ∀ u, S u = true → u < n) : partTo A S v n = listM (reachN A S v) := by
  have hS16 : ∀ u, S u = true → u < 16 := fun u hu => by have := hS u hu; omega
  refine sets_eq (SetP.mk ?_ ?_) (listM_set _) (fun z => ?_)
  · unfold partTo
    rw [List.pairwise_map]
    refine List.Pairwise.imp ?_ (List.Pairwise.filter _ List.pairwise_lt_range)
    intro a b hab
    omega
  · intro x hx
    obtain ⟨u, h1, _, rfl⟩ := (partTo_mem x).1 hx
    omega
  · rw [partTo_mem, listM_mem]
    constructor
    · rintro ⟨u, h1, h2, h3⟩; exact ⟨u, by omega, (reachN_bit hS16 u).2 h2, h3⟩
    · rintro ⟨u, h1, h2, h3⟩
      have h4 := (reachN_bit hS16 u).1 h2
      exact ⟨u, hS u (wk_in h4.choose_spec.1), h4, h3⟩
theorem list_inj {a b : Nat} (ha : a < 65536) (hb : b < 65536) (h : listM a = listM b) : a = b := bit_ext fun u => by
  have hx : ∀ {c : Nat}, c < 65536 → (c.testBit u = true ↔ (u : Int) ∈ listM c) := fun {c} hc => by
    rw [listM_mem]
    constructor
    · intro h
      refine ⟨u, ?_, h, rfl⟩
      exact bitS_lt hc u h
    · rintro ⟨i, _, h1, h2⟩
      have : i = u := by omega
      subst this; exact h1
  rw [hx ha, hx hb, h]
theorem list_nodup (M : Nat) : (listM M).Nodup := by
  rw [List.nodup_iff_pairwise_ne]
  exact (listM_set M).pairwise.imp (fun h => by omega)
/-- A mask within another that has as many is the other. -/
theorem mask_full {R m : Nat} (hR : R < 65536) (hm : m < 65536) (hsub : ∀ u, R.testBit u = true → m.testBit u = true) (hl : (listM R).length = (listM m).length) : R = m := by
  refine list_inj hR hm (sets_eq (listM_set _) (listM_set _) (fun z => ?_))
  have hs : ∀ z, z ∈ listM R → z ∈ listM m := fun z hz => by
    obtain ⟨i, h1, h2, h3⟩ := (listM_mem _ _).1 hz
    exact (listM_mem _ _).2 ⟨i, h1, hsub i h2, h3⟩
  refine ⟨hs z, fun hz => ?_⟩
  rcases Classical.em (z ∈ listM R) with h1 | h1
  · exact h1
  · exfalso
    have h3 : (z :: listM R).Nodup := List.nodup_cons.2 ⟨h1, list_nodup R⟩
    have := h3.length_le_of_subset (l₂ := listM m) (fun y hy => by
      rcases List.mem_cons.1 hy with rfl | hy
      · exact hz
      · exact hs y hy)
    rw [List.length_cons] at this
    omega

/-- What ConnectedIn answers. -/
noncomputable def connB (L : List (List Int)) (xs : List Int) : Bool := setB L xs && decide (0 < xs.length) && decide ((partTo (nearB L) (inS xs) (nth xs 0).toNat L.length).length = xs.length)

theorem conn_mask {L : List (List Int)} {xs : List Int} (hG : GraphP L) (hs : SetP xs L.length) (hx : 0 < xs.length) :
    (reachN (nearM (rowM L)) (bitS (maskTo xs xs.length)) (leastM (maskTo xs xs.length)) = maskTo xs xs.length) ↔ (partTo (nearB L) (inS xs) (nth xs 0).toNat L.length).length = xs.length := by
  have hz := hG.1
  obtain ⟨h1, h2, h3⟩ := least_first hz.2 hs hx
  have hS : ∀ u, inS xs u = true → u < L.length := wkS (fun x hx => by have := hs.bounds x hx; omega)
  have hS16 : ∀ u, inS xs u = true → u < 16 := fun u hu => by have := hS u hu; omega
  rw [h3, bitS_mask hs, nearM_eq hG, partTo_list hz.2 hS]
  constructor
  · intro h; rw [h, set_list hz.2 hs]
  · intro h
    refine mask_full (reachN_lt _ _ _) h2 (fun u hu => ?_) (by rw [h, set_list hz.2 hs])
    have := wk_in ((reachN_bit hS16 u).1 hu).choose_spec.1
    rw [← bitS_mask hs] at this
    exact this

set_option maxHeartbeats 2000000 in
theorem implConnectedIn_any (v v1 : Value) (L : List (List Int)) (xs : List Int) (w : World) (h : GridAt w v L) (h1 : RowAt w v1 xs) (hT : TabAt w) :
    Calls Tryd.prog 77 #[.agg #[v], v1] w fun e w' => e = .returned (.bool (connB L xs)) ∧ Below w.heap.size w w' := by
  obtain ⟨a0, c0, rfl⟩ := h.slice
  have ha : Below w.heap.size w (w.alloc (.cells #[.slice a0 L.length c0] 29)) := (Below.refl _ _).alloc (Nat.le_refl _) _
  have hk := h.keep ha
  have R0 := Lib.hid (h1.keep ha)
  have HA := Lib.hid ha
  clear ha
  go_enter Tryd.func77, Tryd.ntmps77
  go_wp2_with fail
  refine (netOf_any _ _ _ hk).mono ?_
  rintro e w1 ⟨rfl, hb1⟩
  have HB1 : Hid (Below w.heap.size w w1) := HA.out.trans (hb1.mono (by simp))
  have S1 := Lib.hid (R0.out.keep hb1)
  have hz : w.heap.size ≤ w1.heap.size := HB1.out.size
  have hnb := netBlk_new w1 0 (fun _ => 0)
  clear hb1 hk h HA R0
  by_cases hG : GraphP L
  · have hz1 := hG.1
    have HG := Lib.hid hG
    have HLT : Hid (∀ i, rowM L i < 65536) := fun i => rowM_lt (by omega) (fun v hv => (hG.2.1 v hv).1) i
    rw [decide_eq_true hG, netArr_yes hG]
    clear hG
    go_wp2_with (refine wpList_store_net rfl 53 (.tmp 5) (.tmp 11) rfl w1.heap.size L.length (rowM L) rfl rfl Tryd.sizeNet 0 (fun _ => 0) hnb ?_; intro w3 hp; have hn0 := hp.net.at.1; have HNet := Lib.hid hp.net.at; have HB3 : Hid (Below w.heap.size w w3) := (HB1.out.alloc hz _).trans (hp.below.mono hz); have S3 := Lib.hid (S1.out.keep hp.since); clear hp)
    refine (maskOf_any _ _ _ _ S3.out (by omega) (by omega)).mono ?_
    rintro e w4 ⟨rfl, hb4⟩
    have HB4 : Hid (Below w.heap.size w w4) := HB3.out.trans (hb4.mono HB3.out.size)
    have HN4 := Lib.hid (HNet.out.keep hb4)
    have HT4 : Hid (TabAt w4) := hT.keep HB4.out
    clear hb4 hn0 hnb HNet
    by_cases hs : SetP xs L.length
    · rw [if_pos hs, decide_eq_true hs]
      by_cases hx : 0 < xs.length
      · obtain ⟨hm0, hml, hle⟩ := least_first hz1.2 hs hx
        have hsp := leastM_spec hm0 hml
        have HE : Hid (connB L xs = decide (reachN (nearM (rowM L)) (bitS (maskTo xs xs.length)) (leastM (maskTo xs xs.length)) = maskTo xs xs.length)) := by
          show connB L xs = _
          unfold connB setB
          rw [decide_eq_true HG.out, decide_eq_true hs, decide_eq_true hx, Bool.eq_iff_iff, decide_eq_true_iff, conn_mask HG.out hs hx]
          simp
        have hb1 : ((maskTo xs xs.length : Int) != 0) = true := by rw [bne_iff_ne]; omega
        have hb2 : ((maskTo xs xs.length) != 0) = true := by rw [bne_iff_ne]; exact hm0
        have hrl := reachN_lt (nearM (rowM L)) (bitS (maskTo xs xs.length)) (leastM (maskTo xs xs.length))
        clear hs hx hle
        go_wp2_with (first | (go_at_call 84; refine (least_any _ _ hml hm0 HT4.out).mono ?_; rintro e w' ⟨rfl, rfl⟩) | (go_at_call 91; refine (reached_any _ _ _ _ _ _ HN4.out HLT.out hml hsp.1 hsp.2.1).mono ?_; rintro e w7 ⟨rfl, hb7⟩; have HB7 : Hid (Below w.heap.size w w7) := HB4.out.trans (hb7.mono HB4.out.size); clear hb7))
        all_goals go_ret
        all_goals exact ⟨ret_bool (by rw [HE.out, Bool.eq_iff_iff]; simp; try omega), HB7.out⟩
      · have hx0 : xs = [] := List.length_eq_zero_iff.1 (by omega)
        subst hx0
        have HE : Hid (connB L [] = false) := by show connB L [] = _; unfold connB; simp
        have hm : maskTo [] ([] : List Int).length = 0 := rfl
        rw [hm]
        clear hx hs hm
        go_wp2
        go_ret
        exact ⟨ret_bool HE.out.symm, HB4.out⟩
    · rw [if_neg hs, decide_eq_false hs]
      have HE : Hid (connB L xs = false) := by show connB L xs = _; unfold connB setB; rw [decide_eq_false hs]; simp
      clear hs
      go_wp2
      go_ret
      exact ⟨ret_bool HE.out.symm, HB4.out⟩
  · have HE : Hid (connB L xs = false) := by show connB L xs = _; unfold connB setB; rw [decide_eq_false hG]; simp
    rw [decide_eq_false hG, netArr_no hG]
    clear hG
    go_wp2_with (refine wpList_store_net rfl 53 (.tmp 5) (.tmp 11) rfl w1.heap.size 0 (fun _ => 0) rfl rfl Tryd.sizeNet 0 (fun _ => 0) hnb ?_; intro w3 hp; have HB3 : Hid (Below w.heap.size w w3) := (HB1.out.alloc hz _).trans (hp.below.mono hz); clear hp)
    go_ret
    exact ⟨ret_bool HE.out.symm, HB3.out⟩

end Go.Proofs.YtohjfcfcopbmoaaDoor
