/- The texts Y2, Y3, Y4, joined. -/
import Derived.Test.YtojbaepcflkgeaaQY1
import Derived.Test.YtojbaepcflkgeaaQW2
import Derived.Test.YtojbaepcflkgeaaQC1
import Derived.Deep.RegionHeld3

/- Walks: what can be reached. -/
namespace Go.Proofs.Ytojbaepcflkgeaa
open Go.RowKit Go.Shelf
attribute [local go_sem] Oper.semAt_some

/-- The mask of those that have come. -/
def gotN (pre : List (Nat × Nat)) : Nat := pre.foldl (fun m p => m ||| 2 ^ p.1) 0
theorem gotN_snoc (pre : List (Nat × Nat)) (p : Nat × Nat) : gotN (pre ++ [p]) = gotN pre ||| 2 ^ p.1 := by simp [gotN]
theorem gotN_bit (pre : List (Nat × Nat)) (u : Nat) : (gotN pre).testBit u = true ↔ ∃ p, p ∈ pre ∧ p.1 = u := by
  have key : ∀ (pre : List (Nat × Nat)) (m : Nat), (pre.foldl (fun m p => m ||| 2 ^ p.1) m).testBit u = true ↔ m.testBit u = true ∨ ∃ p, p ∈ pre ∧ p.1 = u := by
    intro pre
    induction pre with
    | nil => intro m; simp
    | cons q pre ih =>
      intro m
      rw [List.foldl_cons, ih, Nat.testBit_or, Nat.testBit_two_pow, Bool.or_eq_true, decide_eq_true_iff]
      constructor
      · rintro ((h | h) | ⟨p, hp, e⟩)
        · exact .inl h
        · exact .inr ⟨q, by simp, h⟩
        · exact .inr ⟨p, by simp [hp], e⟩
      · rintro (h | ⟨p, hp, e⟩)
        · exact .inl (.inl h)
        · rcases List.mem_cons.1 hp with rfl | hp
          · exact .inl (.inr e)
          · exact .inr ⟨p, hp, e⟩
  unfold gotN
  rw [key]
  simp
open Classical in
/-- The mask of all that can be reached. -/
noncomputable def reachN (A : Nat → Nat → Bool) (S : Nat → Bool) (v : Nat) : Nat := pm (fun u => decide (∃ k, AtD A S v k u))
theorem reachN_lt (A : Nat → Nat → Bool) (S : Nat → Bool) (v : Nat) : reachN A S v < 65536 := pm_lt _
open Classical in
theorem reachN_bit {A : Nat → Nat → Bool} {S : Nat → Bool} {v : Nat} (hS : ∀ u, S u = true → u < 16) (u : Nat) : (reachN A S v).testBit u = true ↔ ∃ k, AtD A S v k u := by
  unfold reachN
  rw [pm_bit, Bool.and_eq_true, decide_eq_true_iff, decide_eq_true_iff]
  exact ⟨fun h => h.2, fun h => ⟨hS u (wk_in h.choose_spec.1), h⟩⟩
theorem gotN_all {A : Nat → Nat → Bool} {S : Nat → Bool} {v : Nat} (hS : ∀ u, S u = true → u < 16) : gotN (visTo A S v 17) = reachN A S v := bit_ext fun u => by
  rw [gotN_bit, reachN_bit hS]
  constructor
  · rintro ⟨p, hp, rfl⟩
    exact ⟨_, ((visTo_mem hS).1 hp).2⟩
  · rintro ⟨k, hk⟩
    have := atD_lt hS hk
    exact ⟨(u, k), (visTo_mem hS).2 ⟨by show k < 17; omega, hk⟩, rfl⟩

end Go.Proofs.Ytojbaepcflkgeaa

/- Walks: ConnectedIn, of the model. -/
namespace Go.Proofs.Ytojbaepcflkgeaa
open Go.RowKit

/-- The first k vertices that can be reached. -/
noncomputable def partTo (A : Nat → Nat → Bool) (S : Nat → Bool) (v k : Nat) : List Int := ((List.range k).filter (fun u => decide (0 ≤ dOf A S v u))).map (fun u : Nat => (u : Int))
theorem partTo_succ (A : Nat → Nat → Bool) (S : Nat → Bool) (v k : Nat) : partTo A S v (k + 1) = partTo A S v k ++ if 0 ≤ dOf A S v k then [(k : Int)] else [] := by
  unfold partTo
  rw [List.range_succ, List.filter_append, List.map_append]
  congr 1
  by_cases h : 0 ≤ dOf A S v k
  · simp [h]
  · simp [h]
theorem partTo_len (A : Nat → Nat → Bool) (S : Nat → Bool) (v k : Nat) : (partTo A S v k).length ≤ k := by
  unfold partTo
  rw [List.length_map]
  have := List.length_filter_le (fun u => decide (0 ≤ dOf A S v u)) (List.range k)
  rwa [List.length_range] at this
theorem partTo_i64 (A : Nat → Nat → Bool) (S : Nat → Bool) (v k : Nat) (hk : k ≤ 16) : ∀ x ∈ partTo A S v k, I64 x := by
  intro x hx
  unfold partTo at hx
  simp only [List.mem_map, List.mem_filter, List.mem_range] at hx
  obtain ⟨u, ⟨h1, _⟩, rfl⟩ := hx
  unfold I64; omega

set_option maxHeartbeats 2000000 in
theorem l3Part_any (v v1 : Value) (L : List (List Int)) (u : Nat) (xs : List Int) (w : World) (h : GridAt w v L) (hG : GraphP L) (hu : u < L.length) (h1 : RowAt w v1 xs) (hx : ∀ x ∈ xs, 0 ≤ x ∧ x < (L.length : Int)) :
    Calls Try.prog 92 #[.agg #[v], .int .i64 (u : Int), v1] w (GaveRow w (partTo (nearB L) (inS xs) u L.length)) := by
  obtain ⟨i0, hi, hz0, hz1, hz2⟩ := info_parts Try.infoI
  have hz := hG.1
  obtain ⟨a0, c0, rfl⟩ := h.slice
  have ha : Below w.heap.size w (w.alloc (.cells #[.slice a0 L.length c0] 30)) := (Below.refl _ _).alloc (Nat.le_refl _) _
  have hk := h.keep ha
  have hr := h1.keep ha
  have HA := Lib.hid ha
  clear ha h h1
  go_enter Try.func92, Try.ntmps92
  go_wp2_with fail
  refine (l3From_any _ _ L u xs _ hk hG hu hr hx).mono ?_
  rintro e w1 ⟨n1, a1, c1, rfl, ho1, hb1⟩
  obtain ⟨g, cap, e1, hgB, hgl, hc1, hc2⟩ := ho1.posB (by rw [distL_len]; omega)
  simp only [Value.slice.injEq] at e1
  obtain ⟨rfl, rfl, rfl⟩ := e1
  rw [distL_len] at ho1 hc1 ⊢
  have HB1 : Hid (Below w.heap.size w w1) := HA.out.trans (hb1.mono (by simp))
  have hs1 : w.heap.size ≤ w1.heap.size := HB1.out.size
  have HO1 := Lib.hid ho1
  have HC : Hid (∀ i, i < L.length → w1.cell? ⟨g, i, none⟩ = some (.int .i64 (dOf (nearB L) (inS xs) u i))) := fun i hi => by have := ho1.cells' i (by rw [distL_len]; exact hi); rwa [distL_nth hi] at this
  have hown0 : (w1.alloc (.cells #[] 2)).ownsRow w1.heap.size 2 1 (.slice (some ⟨w1.heap.size, 0, none⟩) 0 0) 0 [] := World.ownsRow_lit w1 #[] 0 (Nat.le_refl _) (Nat.zero_le _) rfl
  have HO0 := Lib.hid hown0
  clear ho1 hb1 hk hr hown0 HA
  go_wp2_with fail
  go_loopw [8, 9] (fun s i wr => ∃ k : Nat, k ≤ L.length ∧ i = .int .i64 k ∧ OwnRow 2 wr w1.heap.size s (partTo (nearB L) (inS xs) u k) ∧ Below w1.heap.size w1 wr) (fun _ i _ => L.length - (intOf i).toNat)
  case atStart => exact ⟨0, Nat.zero_le _, rfl, OwnRow.of_ownsRow (n := 0) (xs := []) HO0.out (Nat.zero_le _) (fun x hx => absurd hx (by simp)), (Below.refl _ _).alloc (Nat.le_refl _) _⟩
  case round =>
    obtain ⟨k, hk, rfl, ho, hb⟩ := hrel
    have hpl := partTo_len (nearB L) (inS xs) u k
    have HO := Lib.hid ho
    have HB := Lib.hid hb
    have hz3 : w1.heap.size ≤ wr.heap.size := hb.size
    by_cases hlt : k < L.length
    · have hck := cell_keep hb (HC.out k hlt)
      have HPS := Lib.hid (partTo_succ (nearB L) (inS xs) u k)
      clear ho hb
      by_cases hd : 0 ≤ dOf (nearB L) (inS xs) u k
      · have hdd : decide (0 ≤ dOf (nearB L) (inS xs) u k) = true := by simpa using hd
        have HPE : Hid (partTo (nearB L) (inS xs) u (k + 1) = partTo (nearB L) (inS xs) u k ++ [(k : Int)]) := by show _ = _; rw [HPS.out, if_pos hd]
        clear hd
        go_wp2_with (at_builtin; refine wpList_append_own _ rfl (.tmp 26) (.tmp 28) 35 rfl w1.heap.size 2 i0 (.int .i64 0) 1 8 Try.underlying35 hi hz0 hz1 hz2 rfl (by decide) _ _ _ rfl (HO.out.owns.alloc _) ⟨wr.heap.size, 0, none⟩ 1 1 [.int .i64 (k : Int)] rfl rfl ?d1 ?d2 ?d3 ?d4 ?d5 ?_)
        case d1 =>
          intro j u hj
          match j, hj with
          | 0, hj => simp at hj; subst hj; simp [Addr.add]
        case d2 => intro u hu; simp at hu; subst hu; rfl
        case d3 => unfold maxLen; omega
        case d4 => omega
        case d5 => simp; omega
        intro v4 w4 hown4 hgrow4 _
        have hb4 : Below w1.heap.size w1 w4 := (HB.out.alloc hz3 _).grown hgrow4 (by simp; omega) (fun j hj => (HO.out.lt j hj).1)
        have HO4 : Hid (OwnRow 2 w4 w1.heap.size v4 (partTo (nearB L) (inS xs) u (k + 1))) := OwnRow.of_ownsRow (n := (partTo (nearB L) (inS xs) u k).length + 1) (by rw [HPE.out]; simpa using hown4) (by have := partTo_len (nearB L) (inS xs) u (k + 1); unfold maxLen; omega) (partTo_i64 _ _ _ _ (by omega))
        have HB4 := Lib.hid hb4
        clear hown4 hgrow4 hb4
        go_wp2
        go_roundw
        case rel => exact ⟨k + 1, by omega, by go_num, HO4.out, HB4.out⟩
        case measure => simp [intOf]; omega
      · have hdd : decide (0 ≤ dOf (nearB L) (inS xs) u k) = false := by simpa using hd
        have HPE : Hid (partTo (nearB L) (inS xs) u (k + 1) = partTo (nearB L) (inS xs) u k) := by show _ = _; rw [HPS.out, if_neg hd, List.append_nil]
        clear hd
        go_wp2
        go_roundw
        case rel => exact ⟨k + 1, by omega, by go_num, by rw [HPE.out]; exact HO.out, HB.out⟩
        case measure => simp [intOf]; omega
    · obtain rfl : k = L.length := by omega
      obtain ⟨a4, c4, e4⟩ := ho.row.slice
      subst e4
      have HP : Hid (GaveRow w (partTo (nearB L) (inS xs) u L.length) (.returned (.slice a4 (partTo (nearB L) (inS xs) u L.length).length c4)) wr) := ⟨_, _, _, rfl, HO.out.mono hs1, HB1.out.trans (HB.out.mono hs1)⟩
      clear ho hb
      go_wp2
      go_ret
      exact HP.out

end Go.Proofs.Ytojbaepcflkgeaa

/- Plain facts: sets and masks, parts and masks; ConnectedIn, of the model. -/
namespace Go.Proofs.Ytojbaepcflkgeaa
open Go.RowKit

theorem set_list {xs : List Int} {n : Nat} (hn : n ≤ 16) (h : SetP xs n) : listM (maskTo xs xs.length) = xs := by
  refine sets_eq (listM_set _) (SetP.mk h.pairwise (fun x hx => by have := h.bounds x hx; omega)) (fun z => ?_)
  have hb := fun i => maskTo_bit xs xs.length i (fun j hj => (h j hj).1)
  rw [listM_mem]
  constructor
  · rintro ⟨i, hi, hb1, rfl⟩
    obtain ⟨j, hj, e⟩ := (hb i).1 hb1
    rw [← e]; exact nth_mem hj
  · intro hz
    have h2 := h.bounds z hz
    obtain ⟨j, hj, e⟩ := List.getElem_of_mem hz
    exact ⟨z.toNat, by omega, (hb _).2 ⟨j, hj, by rw [nth_eq hj, e]; omega⟩, by omega⟩
theorem bitS_mask {xs : List Int} {n : Int} (h : SetP xs n) : bitS (maskTo xs xs.length) = inS xs := by
  funext u
  show (maskTo xs xs.length).testBit u = hasB xs (u : Int)
  rw [Bool.eq_iff_iff, maskTo_bit xs xs.length u (fun j hj => (h j hj).1), hasB_iff]
theorem SetP.first {xs : List Int} {n : Int} (h : SetP xs n) {j : Nat} (hj : j < xs.length) : nth xs 0 ≤ nth xs j := by
  by_cases e : j = 0
  · subst e; exact Int.le_refl _
  · have := List.pairwise_iff_getElem.1 h.pairwise 0 j (by omega) hj (by omega)
    rw [nth_eq hj, nth_eq (by omega)]; omega
theorem least_first {xs : List Int} {n : Nat} (hn : n ≤ 16) (h : SetP xs n) (hx : 0 < xs.length) : maskTo xs xs.length ≠ 0 ∧ maskTo xs xs.length < 65536 ∧ leastM (maskTo xs xs.length) = (nth xs 0).toNat := by
  have hb := fun i => maskTo_bit xs xs.length i (fun j hj => (h j hj).1)
  have hl : maskTo xs xs.length < 65536 := maskTo_lt (n := n) (fun j hj => ⟨(h j hj).1, (h j hj).2.1⟩) (by omega) _ (Nat.le_refl _)
  have h0 := (h 0 hx).1
  have h1 : (maskTo xs xs.length).testBit (nth xs 0).toNat = true := (hb _).2 ⟨0, hx, by omega⟩
  have hne : maskTo xs xs.length ≠ 0 := fun e => by rw [e] at h1; simp at h1
  refine ⟨hne, hl, ?_⟩
  obtain ⟨_, hs2, hs3⟩ := leastM_spec hne hl
  obtain ⟨j, hj, e⟩ := (hb _).1 hs2
  have h2 := h.first hj
  rcases Nat.lt_trichotomy (leastM (maskTo xs xs.length)) (nth xs 0).toNat with hh | hh | hh
  · omega
  · exact hh
  · have := hs3 _ hh; rw [h1] at this; cases this

theorem partTo_mem {A : Nat → Nat → Bool} {S : Nat → Bool} {v k : Nat} (z : Int) : z ∈ partTo A S v k ↔ ∃ u : Nat, u < k ∧ (∃ d, AtD A S v d u) ∧ (u : Int) = z := by
  unfold partTo
  simp only [List.mem_map, List.mem_filter, List.mem_range, decide_eq_true_iff, dOf_nonneg]
  constructor
  · rintro ⟨u, ⟨h1, h2⟩, h3⟩; exact ⟨u, h1, h2, h3⟩
  · rintro ⟨u, h1, h2, h3⟩; exact ⟨u, ⟨h1, h2⟩, h3⟩
theorem partTo_list {A : Nat → Nat → Bool} {S : Nat → Bool} {v n : Nat} (hn : n ≤ 16) (hS : ∀ u, S u = true → u < n) : partTo A S v n = listM (reachN A S v) := by
  have hS16 : ∀ u, S u = true → u < 16 := fun u hu => by have := hS u hu; omega
  refine sets_eq (SetP.mk ?_ ?_) (listM_set _) (fun z => ?_)
  · unfold partTo
    rw [List.pairwise_map]
    refine List.Pairwise.imp ?_ (List.Pairwise.filter _ List.pairwise_lt_range)
    intro a b hab
    omega
  · intro x hx
    obtain ⟨u, h1, _, rfl⟩ := (partTo_mem x).1 hx
    omega
  · rw [partTo_mem, listM_mem]
    constructor
    · rintro ⟨u, h1, h2, h3⟩; exact ⟨u, by omega, (reachN_bit hS16 u).2 h2, h3⟩
    · rintro ⟨u, h1, h2, h3⟩
      have h4 := (reachN_bit hS16 u).1 h2
      exact ⟨u, hS u (wk_in h4.choose_spec.1), h4, h3⟩
theorem list_inj {a b : Nat} (ha : a < 65536) (hb : b < 65536) (h : listM a = listM b) : a = b := bit_ext fun u => by
  have hx : ∀ {c : Nat}, c < 65536 → (c.testBit u = true ↔ (u : Int) ∈ listM c) := fun {c} hc => by
    rw [listM_mem]
    constructor
    · intro h
      refine ⟨u, ?_, h, rfl⟩
      exact bitS_lt hc u h
    · rintro ⟨i, _, h1, h2⟩
      have : i = u := by omega
      subst this; exact h1
  rw [hx ha, hx hb, h]
theorem list_nodup (M : Nat) : (listM M).Nodup := by
  rw [List.nodup_iff_pairwise_ne]
  exact (listM_set M).pairwise.imp (fun h => by omega)
/-- A mask within another that has as many is the other. -/
theorem mask_full {R m : Nat} (hR : R < 65536) (hm : m < 65536) (hsub : ∀ u, R.testBit u = true → m.testBit u = true) (hl : (listM R).length = (listM m).length) : R = m := by
  refine list_inj hR hm (sets_eq (listM_set _) (listM_set _) (fun z => ?_))
  have hs : ∀ z, z ∈ listM R → z ∈ listM m := fun z hz => by
    obtain ⟨i, h1, h2, h3⟩ := (listM_mem _ _).1 hz
    exact (listM_mem _ _).2 ⟨i, h1, hsub i h2, h3⟩
  refine ⟨hs z, fun hz => ?_⟩
  rcases Classical.em (z ∈ listM R) with h1 | h1
  · exact h1
  · exfalso
    have h3 : (z :: listM R).Nodup := List.nodup_cons.2 ⟨h1, list_nodup R⟩
    have := h3.length_le_of_subset (l₂ := listM m) (fun y hy => by
      rcases List.mem_cons.1 hy with rfl | hy
      · exact hz
      · exact hs y hy)
    rw [List.length_cons] at this
    omega

/-- What ConnectedIn answers. -/
noncomputable def connB (L : List (List Int)) (xs : List Int) : Bool := setB L xs && decide (0 < xs.length) && decide ((partTo (nearB L) (inS xs) (nth xs 0).toNat L.length).length = xs.length)

theorem conn_mask {L : List (List Int)} {xs : List Int} (hG : GraphP L) (hs : SetP xs L.length) (hx : 0 < xs.length) :
    (reachN (nearM (rowM L)) (bitS (maskTo xs xs.length)) (leastM (maskTo xs xs.length)) = maskTo xs xs.length) ↔ (partTo (nearB L) (inS xs) (nth xs 0).toNat L.length).length = xs.length := by
  have hz := hG.1
  obtain ⟨h1, h2, h3⟩ := least_first hz.2 hs hx
  have hS : ∀ u, inS xs u = true → u < L.length := wkS (fun x hx => by have := hs.bounds x hx; omega)
  have hS16 : ∀ u, inS xs u = true → u < 16 := fun u hu => by have := hS u hu; omega
  rw [h3, bitS_mask hs, nearM_eq hG, partTo_list hz.2 hS]
  constructor
  · intro h; rw [h, set_list hz.2 hs]
  · intro h
    refine mask_full (reachN_lt _ _ _) h2 (fun u hu => ?_) (by rw [h, set_list hz.2 hs])
    have := wk_in ((reachN_bit hS16 u).1 hu).choose_spec.1
    rw [← bitS_mask hs] at this
    exact this

end Go.Proofs.Ytojbaepcflkgeaa
