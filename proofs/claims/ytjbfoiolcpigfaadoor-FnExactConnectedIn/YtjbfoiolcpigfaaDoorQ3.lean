/- The texts Y3, Y4, LawConnectedIn, Frame, FrameD, joined. -/
import Derived.Test.YtjbfoiolcpigfaaDoorQ2
import Derived.Test.YtjbfoiolcpigfaaDoorC3
import Derived.Deep.RegionHeld3
import Derived.Test.YtjbfoiolcpigfaaDoorRows
import Derived.Test.YtjbfoiolcpigfaaDoorBase
import Derived.ProofKit
import Derived.OpenShut
import Derived.ShutString
import Derived.ChangeOld
import Derived.Deep.Matrix
import Derived.Test.YtjbfoiolcpigfaaDoorTie
import Derived.Test.YtjbfoiolcpigfaaDoorCards
import Derived.LaidMore
import Derived.Stop.Joined
import Derived.Lib.LaidTab
import Derived.SevenTiedAt

/- Walks: ConnectedIn, of the model. -/
namespace Go.Proofs.YtjbfoiolcpigfaaDoor
open Go.RowKit

/-- The first k vertices that can be reached. -/
noncomputable def partTo (A : Nat → Nat → Bool) (S : Nat → Bool) (v k : Nat) : List Int := ((List.range k).filter (fun u => decide (0 ≤ dOf A S v u))).map (fun u : Nat => (u : Int))
theorem partTo_succ (A : Nat → Nat → Bool) (S : Nat → Bool) (v k : Nat) : partTo A S v (k + 1) = partTo A S v k ++ if 0 ≤ dOf A S v k then [(k : Int)] else [] := by
  unfold partTo
  rw [List.range_succ, List.filter_append, List.map_append]
  congr 1
  by_cases h : 0 ≤ dOf A S v k
  · simp [h]
  · simp [h]
theorem partTo_len (A : Nat → Nat → Bool) (S : Nat → Bool) (v k : Nat) : (partTo A S v k).length ≤ k := by
  unfold partTo
  rw [List.length_map]
  have := List.length_filter_le (fun u => decide (0 ≤ dOf A S v u)) (List.range k)
  rwa [List.length_range] at this
theorem partTo_i64 (A : Nat → Nat → Bool) (S : Nat → Bool) (v k : Nat) (hk : k ≤ 16) : ∀ x ∈ partTo A S v k, I64 x := by
  intro x hx
  unfold partTo at hx
  simp only [List.mem_map, List.mem_filter, List.mem_range] at hx
  obtain ⟨u, ⟨h1, _⟩, rfl⟩ := hx
  unfold I64; omega

set_option maxHeartbeats 2000000 in
theorem l3Part_any (v v1 : Value) (L : List (List Int)) (u : Nat) (xs : List Int) (w : World) (h : GridAt w v L) (hG : GraphP L) (hu : u < L.length) (h1 : RowAt w v1 xs) (hx : ∀ x ∈ xs, 0 ≤ x ∧ x < (L.length : Int)) :
    Calls Tryd.prog 124 #[.agg #[v], .int .i64 (u : Int), v1] w (GaveRow w (partTo (nearB L) (inS xs) u L.length)) := by
  obtain ⟨i0, hi, hz0, hz1, hz2⟩ := info_parts Tryd.infoI
  have hz := hG.1
  obtain ⟨a0, c0, rfl⟩ := h.slice
  have ha : Below w.heap.size w (w.alloc (.cells #[.slice a0 L.length c0] 29)) := (Below.refl _ _).alloc (Nat.le_refl _) _
  have hk := h.keep ha
  have hr := h1.keep ha
  have HA := Lib.hid ha
  clear ha h h1
  go_enter Tryd.func124, Tryd.ntmps124
  go_wp2_with fail
  refine (l3From_any _ _ L u xs _ hk hG hu hr hx).mono ?_
  rintro e w1 ⟨n1, a1, c1, rfl, ho1, hb1⟩
  obtain ⟨g, cap, e1, hgB, hgl, hc1, hc2⟩ := ho1.posB (by rw [distL_len]; omega)
  simp only [Value.slice.injEq] at e1
  obtain ⟨rfl, rfl, rfl⟩ := e1
  rw [distL_len] at ho1 hc1 ⊢
  have HB1 : Hid (Below w.heap.size w w1) := HA.out.trans (hb1.mono (by simp))
  have hs1 : w.heap.size ≤ w1.heap.size := HB1.out.size
  have HO1 := Lib.hid ho1
  have HC : Hid (∀ i, i < L.length → w1.cell? ⟨g, i, none⟩ = some (.int .i64 (dOf (nearB L) (inS xs) u i))) := fun i hi => by have := ho1.cells' i (by rw [distL_len]; exact hi); rwa [distL_nth hi] at this
  have hown0 : (w1.alloc (.cells #[] 2)).ownsRow w1.heap.size 2 1 (.slice (some ⟨w1.heap.size, 0, none⟩) 0 0) 0 [] := World.ownsRow_lit w1 #[] 0 (Nat.le_refl _) (Nat.zero_le _) rfl
  have HO0 := Lib.hid hown0
  clear ho1 hb1 hk hr hown0 HA
  go_wp2_with fail
  go_loopw [8, 9] (fun s i wr => ∃ k : Nat, k ≤ L.length ∧ i = .int .i64 k ∧ OwnRow 2 wr w1.heap.size s (partTo (nearB L) (inS xs) u k) ∧ Below w1.heap.size w1 wr) (fun _ i _ => L.length - (intOf i).toNat)
  case atStart => exact ⟨0, Nat.zero_le _, rfl, OwnRow.of_ownsRow (n := 0) (xs := []) HO0.out (Nat.zero_le _) (fun x hx => absurd hx (by simp)), (Below.refl _ _).alloc (Nat.le_refl _) _⟩
  case round =>
    obtain ⟨k, hk, rfl, ho, hb⟩ := hrel
    have hpl := partTo_len (nearB L) (inS xs) u k
    have HO := Lib.hid ho
    have HB := Lib.hid hb
    have hz3 : w1.heap.size ≤ wr.heap.size := hb.size
    by_cases hlt : k < L.length
    · have hck := cell_keep hb (HC.out k hlt)
      have HPS := Lib.hid (partTo_succ (nearB L) (inS xs) u k)
      clear ho hb
      by_cases hd : 0 ≤ dOf (nearB L) (inS xs) u k
      · have hdd : decide (0 ≤ dOf (nearB L) (inS xs) u k) = true := by simpa using hd
        have HPE : Hid (partTo (nearB L) (inS xs) u (k + 1) = partTo (nearB L) (inS xs) u k ++ [(k : Int)]) := by show _ = _; rw [HPS.out, if_pos hd]
        clear hd
        go_wp2_with (at_builtin; refine wpList_append_own _ rfl (.tmp 26) (.tmp 28) 36 rfl w1.heap.size 2 i0 (.int .i64 0) 1 8 Tryd.underlying36 hi hz0 hz1 hz2 rfl (by decide) _ _ _ rfl (HO.out.owns.alloc _) ⟨wr.heap.size, 0, none⟩ 1 1 [.int .i64 (k : Int)] rfl rfl ?d1 ?d2 ?d3 ?d4 ?d5 ?_)
        case d1 =>
          intro j u hj
          match j, hj with
          | 0, hj => simp at hj; subst hj; simp [Addr.add]
        case d2 => intro u hu; simp at hu; subst hu; rfl
        case d3 => unfold maxLen; omega
        case d4 => omega
        case d5 => simp; omega
        intro v4 w4 hown4 hgrow4 _
        have hb4 : Below w1.heap.size w1 w4 := (HB.out.alloc hz3 _).grown hgrow4 (by simp; omega) (fun j hj => (HO.out.lt j hj).1)
        have HO4 : Hid (OwnRow 2 w4 w1.heap.size v4 (partTo (nearB L) (inS xs) u (k + 1))) := OwnRow.of_ownsRow (n := (partTo (nearB L) (inS xs) u k).length + 1) (by rw [HPE.out]; simpa using hown4) (by have := partTo_len (nearB L) (inS xs) u (k + 1); unfold maxLen; omega) (partTo_i64 _ _ _ _ (by omega))
        have HB4 := Lib.hid hb4
        clear hown4 hgrow4 hb4
        go_wp2
        go_roundw
        case rel => exact ⟨k + 1, by omega, by go_num, HO4.out, HB4.out⟩
        case measure => simp [intOf]; omega
      · have hdd : decide (0 ≤ dOf (nearB L) (inS xs) u k) = false := by simpa using hd
        have HPE : Hid (partTo (nearB L) (inS xs) u (k + 1) = partTo (nearB L) (inS xs) u k) := by show _ = _; rw [HPS.out, if_neg hd, List.append_nil]
        clear hd
        go_wp2
        go_roundw
        case rel => exact ⟨k + 1, by omega, by go_num, by rw [HPE.out]; exact HO.out, HB.out⟩
        case measure => simp [intOf]; omega
    · obtain rfl : k = L.length := by omega
      obtain ⟨a4, c4, e4⟩ := ho.row.slice
      subst e4
      have HP : Hid (GaveRow w (partTo (nearB L) (inS xs) u L.length) (.returned (.slice a4 (partTo (nearB L) (inS xs) u L.length).length c4)) wr) := ⟨_, _, _, rfl, HO.out.mono hs1, HB1.out.trans (HB.out.mono hs1)⟩
      clear ho hb
      go_wp2
      go_ret
      exact HP.out

end Go.Proofs.YtjbfoiolcpigfaaDoor

/- Plain facts: sets and masks, parts and masks; ConnectedIn, of the model. -/
namespace Go.Proofs.YtjbfoiolcpigfaaDoor
open Go.RowKit

theorem set_list {xs : List Int} {n : Nat} (hn : n ≤ 16) (h : SetP xs n) : listM (maskTo xs xs.length) = xs := by
  refine sets_eq (listM_set _) (SetP.mk h.pairwise (fun x hx => by have := h.bounds x hx; omega)) (fun z => ?_)
  have hb := fun i => maskTo_bit xs xs.length i (fun j hj => (h j hj).1)
  rw [listM_mem]
  constructor
  · rintro ⟨i, hi, hb1, rfl⟩
    obtain ⟨j, hj, e⟩ := (hb i).1 hb1
    rw [← e]; exact nth_mem hj
  · intro hz
    have h2 := h.bounds z hz
    obtain ⟨j, hj, e⟩ := List.getElem_of_mem hz
    exact ⟨z.toNat, by omega, (hb _).2 ⟨j, hj, by rw [nth_eq hj, e]; omega⟩, by omega⟩
theorem bitS_mask {xs : List Int} {n : Int} (h : SetP xs n) : bitS (maskTo xs xs.length) = inS xs := by
  funext u
  show (maskTo xs xs.length).testBit u = hasB xs (u : Int)
  rw [Bool.eq_iff_iff, maskTo_bit xs xs.length u (fun j hj => (h j hj).1), hasB_iff]
theorem SetP.first {xs : List Int} {n : Int} (h : SetP xs n) {j : Nat} (hj : j < xs.length) : nth xs 0 ≤ nth xs j := by
  by_cases e : j = 0
  · subst e; exact Int.le_refl _
  · have := List.pairwise_iff_getElem.1 h.pairwise 0 j (by omega) hj (by omega)
    rw [nth_eq hj, nth_eq (by omega)]; omega
theorem least_first {xs : List Int} {n : Nat} (hn : n ≤ 16) (h : SetP xs n) (hx : 0 < xs.length) : maskTo xs xs.length ≠ 0 ∧ maskTo xs xs.length < 65536 ∧ leastM (maskTo xs xs.length) = (nth xs 0).toNat := by
  have hb := fun i => maskTo_bit xs xs.length i (fun j hj => (h j hj).1)
  have hl : maskTo xs xs.length < 65536 := maskTo_lt (n := n) (fun j hj => ⟨(h j hj).1, (h j hj).2.1⟩) (by omega) _ (Nat.le_refl _)
  have h0 := (h 0 hx).1
  have h1 : (maskTo xs xs.length).testBit (nth xs 0).toNat = true := (hb _).2 ⟨0, hx, by omega⟩
  have hne : maskTo xs xs.length ≠ 0 := fun e => by rw [e] at h1; simp at h1
  refine ⟨hne, hl, ?_⟩
  obtain ⟨_, hs2, hs3⟩ := leastM_spec hne hl
  obtain ⟨j, hj, e⟩ := (hb _).1 hs2
  have h2 := h.first hj
  rcases Nat.lt_trichotomy (leastM (maskTo xs xs.length)) (nth xs 0).toNat with hh | hh | hh
  · omega
  · exact hh
  · have := hs3 _ hh; rw [h1] at this; cases this

theorem partTo_mem {A : Nat → Nat → Bool} {S : Nat → Bool} {v k : Nat} (z : Int) : z ∈ partTo A S v k ↔ ∃ u : Nat, u < k ∧ (∃ d, AtD A S v d u) ∧ (u : Int) = z := by
  unfold partTo
  simp only [List.mem_map, List.mem_filter, List.mem_range, decide_eq_true_iff, dOf_nonneg]
  constructor
  · rintro ⟨u, ⟨h1, h2⟩, h3⟩; exact ⟨u, h1, h2, h3⟩
  · rintro ⟨u, h1, h2, h3⟩; exact ⟨u, ⟨h1, h2⟩, h3⟩
theorem partTo_list {A : Nat → Nat → Bool} {S : Nat → Bool} {v n : Nat} (hn : n ≤ 16) (hS : ∀ u, S u = true → u < n) : partTo A S v n = listM (reachN A S v) := by
  have hS16 : ∀ u, S u = true → u < 16 := fun u hu => by have := hS u hu; omega
  refine sets_eq (SetP.mk ?_ ?_) (listM_set _) (fun z => ?_)
  · unfold partTo
    rw [List.pairwise_map]
    refine List.Pairwise.imp ?_ (List.Pairwise.filter _ List.pairwise_lt_range)
    intro a b hab
    omega
  · intro x hx
    obtain ⟨u, h1, _, rfl⟩ := (partTo_mem x).1 hx
    omega
  · rw [partTo_mem, listM_mem]
    constructor
    · rintro ⟨u, h1, h2, h3⟩; exact ⟨u, by omega, (reachN_bit hS16 u).2 h2, h3⟩
    · rintro ⟨u, h1, h2, h3⟩
      have h4 := (reachN_bit hS16 u).1 h2
      exact ⟨u, hS u (wk_in h4.choose_spec.1), h4, h3⟩
theorem list_inj {a b : Nat} (ha : a < 65536) (hb : b < 65536) (h : listM a = listM b) : a = b := bit_ext fun u => by
  have hx : ∀ {c : Nat}, c < 65536 → (c.testBit u = true ↔ (u : Int) ∈ listM c) := fun {c} hc => by
    rw [listM_mem]
    constructor
    · intro h
      refine ⟨u, ?_, h, rfl⟩
      exact bitS_lt hc u h
    · rintro ⟨i, _, h1, h2⟩
      have : i = u := by omega
      subst this; exact h1
  rw [hx ha, hx hb, h]
theorem list_nodup (M : Nat) : (listM M).Nodup := by
  rw [List.nodup_iff_pairwise_ne]
  exact (listM_set M).pairwise.imp (fun h => by omega)
/-- A mask within another that has as many is the other. -/
theorem mask_full {R m : Nat} (hR : R < 65536) (hm : m < 65536) (hsub : ∀ u, R.testBit u = true → m.testBit u = true) (hl : (listM R).length = (listM m).length) : R = m := by
  refine list_inj hR hm (sets_eq (listM_set _) (listM_set _) (fun z => ?_))
  have hs : ∀ z, z ∈ listM R → z ∈ listM m := fun z hz => by
    obtain ⟨i, h1, h2, h3⟩ := (listM_mem _ _).1 hz
    exact (listM_mem _ _).2 ⟨i, h1, hsub i h2, h3⟩
  refine ⟨hs z, fun hz => ?_⟩
  rcases Classical.em (z ∈ listM R) with h1 | h1
  · exact h1
  · exfalso
    have h3 : (z :: listM R).Nodup := List.nodup_cons.2 ⟨h1, list_nodup R⟩
    have := h3.length_le_of_subset (l₂ := listM m) (fun y hy => by
      rcases List.mem_cons.1 hy with rfl | hy
      · exact hz
      · exact hs y hy)
    rw [List.length_cons] at this
    omega

/-- What ConnectedIn answers. -/
noncomputable def connB (L : List (List Int)) (xs : List Int) : Bool := setB L xs && decide (0 < xs.length) && decide ((partTo (nearB L) (inS xs) (nth xs 0).toNat L.length).length = xs.length)

theorem conn_mask {L : List (List Int)} {xs : List Int} (hG : GraphP L) (hs : SetP xs L.length) (hx : 0 < xs.length) :
    (reachN (nearM (rowM L)) (bitS (maskTo xs xs.length)) (leastM (maskTo xs xs.length)) = maskTo xs xs.length) ↔ (partTo (nearB L) (inS xs) (nth xs 0).toNat L.length).length = xs.length := by
  have hz := hG.1
  obtain ⟨h1, h2, h3⟩ := least_first hz.2 hs hx
  have hS : ∀ u, inS xs u = true → u < L.length := wkS (fun x hx => by have := hs.bounds x hx; omega)
  have hS16 : ∀ u, inS xs u = true → u < 16 := fun u hu => by have := hS u hu; omega
  rw [h3, bitS_mask hs, nearM_eq hG, partTo_list hz.2 hS]
  constructor
  · intro h; rw [h, set_list hz.2 hs]
  · intro h
    refine mask_full (reachN_lt _ _ _) h2 (fun u hu => ?_) (by rw [h, set_list hz.2 hs])
    have := wk_in ((reachN_bit hS16 u).1 hu).choose_spec.1
    rw [← bitS_mask hs] at this
    exact this

set_option maxHeartbeats 2000000 in
theorem l3Connected_any (v v1 : Value) (L : List (List Int)) (xs : List Int) (w : World) (h : GridAt w v L) (hG : GraphP L) (h1 : RowAt w v1 xs) (hs : SetP xs L.length) :
    Calls Tryd.prog 114 #[.agg #[v], v1] w fun e w' => e = .returned (.bool (decide (0 < xs.length) && decide ((partTo (nearB L) (inS xs) (nth xs 0).toNat L.length).length = xs.length))) ∧ Below w.heap.size w w' := by
  have hl1 := h1.len
  unfold maxLen at hl1
  obtain ⟨a0, c0, rfl⟩ := h.slice
  have ha : Below w.heap.size w (w.alloc (.cells #[.slice a0 L.length c0] 29)) := (Below.refl _ _).alloc (Nat.le_refl _) _
  have kb : (w.alloc (.cells #[.slice a0 L.length c0] 29)).cell? ⟨w.heap.size, 0, none⟩ = some (.slice a0 L.length c0) := by go_simp
  have HGK : Hid (∀ w', Below w.heap.size w w' → GridAt w' (.slice a0 L.length c0) L) := fun w' hb => h.keep hb
  have hXK : Hid (∀ w', Below w.heap.size w w' → RowAt w' v1 xs) := fun w' hb => h1.keep hb
  have HA := Lib.hid ha
  have HG := Lib.hid hG
  by_cases h0 : xs.length = 0
  · have HE : Hid ((decide (0 < xs.length) && decide ((partTo (nearB L) (inS xs) (nth xs 0).toNat L.length).length = xs.length)) = false) := by show _ = _; rw [decide_eq_false (by omega)]; rfl
    obtain ⟨a1, c1, rfl⟩ := h1.zero h0
    clear h0 h h1 ha kb hG
    go_enter Tryd.func114, Tryd.ntmps114
    go_wp2
    refine wp_region_later (by kernel_rfl) (by kernel_rfl) ?_
    repeat (go_big_quiet_step (fail))
    refine wpQuiet_nil ?_
    rintro _ ⟨x, rfl⟩
    all_goals go_wp2
    all_goals go_ret
    exact ⟨ret_bool HE.out.symm, HA.out.trans (x.bel.mono (by simp))⟩
  · obtain ⟨b, o, c, rfl, l1, l2, hc⟩ := h1.pos (by omega)
    have hc0 := cell_keep ha (hc 0 (by omega))
    rw [Nat.add_zero] at hc0
    have hz := hG.1
    have hst := hs 0 (by omega)
    obtain ⟨y, hy⟩ : ∃ y : Nat, nth xs 0 = (y : Int) := ⟨(nth xs 0).toNat, by have := hst.1; omega⟩
    have hyn : y < L.length := by have := hst.2.1; omega
    have HBD : Hid (∀ x ∈ xs, 0 ≤ x ∧ x < (L.length : Int)) := fun x hx => by have := hs.bounds x hx; omega
    have hgt : decide ((0 : Int) < (xs.length : Int)) = true := by simp; omega
    have hgt' : decide (0 < xs.length) = true := by simp; omega
    have hgt2 : (0 : Int) < (xs.length : Int) := by omega
    have hgt3 : 0 < xs.length := by omega
    have HPL := Lib.hid (partTo_len (nearB L) (inS xs) y L.length)
    rw [hy, Int.toNat_natCast, hgt', Bool.true_and]
    rw [hy] at hc0
    clear h0 h h1 ha hG hst hy hc
    go_enter Tryd.func114, Tryd.ntmps114
    go_wp2_with fail
    go_region_held3 (fun wx => wx.cell? ⟨w.heap.size, 0, none⟩ = some (.slice a0 L.length c0) ∧ wx.cell? ⟨b, o, none⟩ = some (.int .i64 (y : Int))) (first | exact ⟨kb, hc0⟩ | exact ⟨kba, hca⟩)
      (first
        | (go_at_call 124; refine (l3Part_any _ _ L y xs _ (HGK.out _ HA.out.drew) HG.out hyn (hXK.out _ HA.out.drew) HBD.out).mono ?_; rintro e wa ⟨na, aa, ca, rfl, hoa, hba⟩; have kba := cell_keep hba (cell_keep (Below.refl _ _).drew kb); have hca := cell_keep hba (cell_keep (Below.refl _ _).drew hc0); obtain ⟨a', c', ea⟩ := hoa.row.slice; simp only [Value.slice.injEq] at ea; obtain ⟨rfl, rfl, rfl⟩ := ea; have HBA : Hid (Below w.heap.size w wa) := HA.out.drew.trans (hba.mono (by simp)); clear hoa hba))
    all_goals go_wp2
    all_goals go_ret
    all_goals exact ⟨ret_bool (by rw [Bool.eq_iff_iff]; simp; try omega), HBA.out⟩

set_option maxHeartbeats 1000000 in
theorem specConnectedIn_any (v v1 : Value) (L : List (List Int)) (xs : List Int) (w : World) (h : GridAt w v L) (h1 : RowAt w v1 xs) :
    Calls Tryd.prog 62 #[.agg #[v], v1] w fun e w' => e = .returned (.bool (connB L xs)) ∧ Below w.heap.size w w' := by
  obtain ⟨a0, c0, rfl⟩ := h.slice
  have ha : Below w.heap.size w (w.alloc (.cells #[.slice a0 L.length c0] 29)) := (Below.refl _ _).alloc (Nat.le_refl _) _
  have hk := h.keep ha
  have R0 := Lib.hid (h1.keep ha)
  have HA := Lib.hid ha
  clear ha
  go_enter Tryd.func62, Tryd.ntmps62
  go_wp2_with fail
  refine (specSetOk_any _ _ _ _ _ hk R0.out).mono ?_
  rintro e w1 ⟨rfl, hb1⟩
  have kb1 : w1.cell? ⟨w.heap.size, 0, none⟩ = some (.slice a0 L.length c0) := by rw [hb1.cell (by simp)]; go_simp
  have R1 := Lib.hid (hk.keep hb1)
  have S1 := Lib.hid (R0.out.keep hb1)
  have HB1 : Hid (Below w.heap.size w w1) := HA.out.trans (hb1.mono (by simp))
  clear hb1 hk h HA R0
  by_cases hs : setB L xs = true
  · have hs2 : GraphP L ∧ SetP xs L.length := by simpa [setB] using hs
    have HE : Hid (connB L xs = (decide (0 < xs.length) && decide ((partTo (nearB L) (inS xs) (nth xs 0).toNat L.length).length = xs.length))) := by show connB L xs = _; unfold connB; rw [hs, Bool.true_and]
    rw [hs]
    clear hs
    go_wp2_with fail
    refine (l3Connected_any _ _ _ _ _ R1.out hs2.1 S1.out hs2.2).mono ?_
    rintro e w2 ⟨rfl, hb2⟩
    have HB2 : Hid (Below w.heap.size w w2) := HB1.out.trans (hb2.mono HB1.out.size)
    rw [← HE.out]
    clear hb2 kb1 R1 HB1 S1
    go_wp2
    go_ret
    exact ⟨rfl, HB2.out⟩
  · have hs' : setB L xs = false := by simpa using hs
    have HE : Hid (connB L xs = false) := by show connB L xs = _; unfold connB; rw [hs']; simp
    rw [hs']
    clear hs hs'
    go_wp2
    go_ret
    exact ⟨ret_bool HE.out.symm, HB1.out⟩

set_option maxHeartbeats 2000000 in
theorem implConnectedIn_any (v v1 : Value) (L : List (List Int)) (xs : List Int) (w : World) (h : GridAt w v L) (h1 : RowAt w v1 xs) (hT : TabAt w) :
    Calls Tryd.prog 40 #[.agg #[v], v1] w fun e w' => e = .returned (.bool (connB L xs)) ∧ Below w.heap.size w w' := by
  obtain ⟨a0, c0, rfl⟩ := h.slice
  have ha : Below w.heap.size w (w.alloc (.cells #[.slice a0 L.length c0] 29)) := (Below.refl _ _).alloc (Nat.le_refl _) _
  have hk := h.keep ha
  have R0 := Lib.hid (h1.keep ha)
  have HA := Lib.hid ha
  clear ha
  go_enter Tryd.func40, Tryd.ntmps40
  go_wp2_with fail
  refine (netOf_any _ _ _ hk).mono ?_
  rintro e w1 ⟨rfl, hb1⟩
  have HB1 : Hid (Below w.heap.size w w1) := HA.out.trans (hb1.mono (by simp))
  have S1 := Lib.hid (R0.out.keep hb1)
  have hz : w.heap.size ≤ w1.heap.size := HB1.out.size
  have hnb := netBlk_new w1 0 (fun _ => 0)
  clear hb1 hk h HA R0
  by_cases hG : GraphP L
  · have hz1 := hG.1
    have HG := Lib.hid hG
    have HLT : Hid (∀ i, rowM L i < 65536) := fun i => rowM_lt (by omega) (fun v hv => (hG.2.1 v hv).1) i
    rw [decide_eq_true hG, netArr_yes hG]
    clear hG
    go_wp2_with (refine wpList_store_net rfl 74 (.tmp 5) (.tmp 11) rfl w1.heap.size L.length (rowM L) rfl rfl Tryd.sizeNet 0 (fun _ => 0) hnb ?_; intro w3 hp; have hn0 := hp.net.at.1; have HNet := Lib.hid hp.net.at; have HB3 : Hid (Below w.heap.size w w3) := (HB1.out.alloc hz _).trans (hp.below.mono hz); have S3 := Lib.hid (S1.out.keep hp.since); clear hp)
    refine (maskOf_any _ _ _ _ S3.out (by omega) (by omega)).mono ?_
    rintro e w4 ⟨rfl, hb4⟩
    have HB4 : Hid (Below w.heap.size w w4) := HB3.out.trans (hb4.mono HB3.out.size)
    have HN4 := Lib.hid (HNet.out.keep hb4)
    have HT4 : Hid (TabAt w4) := hT.keep HB4.out
    clear hb4 hn0 hnb HNet
    by_cases hs : SetP xs L.length
    · rw [if_pos hs, decide_eq_true hs]
      by_cases hx : 0 < xs.length
      · obtain ⟨hm0, hml, hle⟩ := least_first hz1.2 hs hx
        have hsp := leastM_spec hm0 hml
        have HE : Hid (connB L xs = decide (reachN (nearM (rowM L)) (bitS (maskTo xs xs.length)) (leastM (maskTo xs xs.length)) = maskTo xs xs.length)) := by
          show connB L xs = _
          unfold connB setB
          rw [decide_eq_true HG.out, decide_eq_true hs, decide_eq_true hx, Bool.eq_iff_iff, decide_eq_true_iff, conn_mask HG.out hs hx]
          simp
        have hb1 : ((maskTo xs xs.length : Int) != 0) = true := by rw [bne_iff_ne]; omega
        have hb2 : ((maskTo xs xs.length) != 0) = true := by rw [bne_iff_ne]; exact hm0
        have hrl := reachN_lt (nearM (rowM L)) (bitS (maskTo xs xs.length)) (leastM (maskTo xs xs.length))
        clear hs hx hle
        go_wp2_with (first | (go_at_call 97; refine (least_any _ _ hml hm0 HT4.out).mono ?_; rintro e w' ⟨rfl, rfl⟩) | (go_at_call 96; refine (reached_any _ _ _ _ _ _ HN4.out HLT.out hml hsp.1 hsp.2.1).mono ?_; rintro e w7 ⟨rfl, hb7⟩; have HB7 : Hid (Below w.heap.size w w7) := HB4.out.trans (hb7.mono HB4.out.size); clear hb7))
        all_goals go_ret
        all_goals exact ⟨ret_bool (by rw [HE.out, Bool.eq_iff_iff]; simp; try omega), HB7.out⟩
      · have hx0 : xs = [] := List.length_eq_zero_iff.1 (by omega)
        subst hx0
        have HE : Hid (connB L [] = false) := by show connB L [] = _; unfold connB; simp
        have hm : maskTo [] ([] : List Int).length = 0 := rfl
        rw [hm]
        clear hx hs hm
        go_wp2
        go_ret
        exact ⟨ret_bool HE.out.symm, HB4.out⟩
    · rw [if_neg hs, decide_eq_false hs]
      have HE : Hid (connB L xs = false) := by show connB L xs = _; unfold connB setB; rw [decide_eq_false hs]; simp
      clear hs
      go_wp2
      go_ret
      exact ⟨ret_bool HE.out.symm, HB4.out⟩
  · have HE : Hid (connB L xs = false) := by show connB L xs = _; unfold connB setB; rw [decide_eq_false hG]; simp
    rw [decide_eq_false hG, netArr_no hG]
    clear hG
    go_wp2_with (refine wpList_store_net rfl 74 (.tmp 5) (.tmp 11) rfl w1.heap.size 0 (fun _ => 0) rfl rfl Tryd.sizeNet 0 (fun _ => 0) hnb ?_; intro w3 hp; have HB3 : Hid (Below w.heap.size w w3) := (HB1.out.alloc hz _).trans (hp.below.mono hz); clear hp)
    go_ret
    exact ⟨ret_bool HE.out.symm, HB3.out⟩

end Go.Proofs.YtjbfoiolcpigfaaDoor

/- The walk of the law FnExactConnectedIn, written by program (tools/lawgen.py) out of the contracts. -/
namespace Go.Proofs.YtjbfoiolcpigfaaDoor
open Go.RowKit

set_option maxHeartbeats 1600000 in
theorem lawConnectedIn (v0 : Value) (L0 : List (List Int)) (v1 : Value) (L1 : List Int) (w : World) (h0 : GridAt w v0 L0) (h1 : RowAt w v1 L1) (hT : TabAt w) :
    Calls Tryd.prog 11 #[.agg #[v0], v1] w fun e w' => e = .returned (.bool true) ∧ Below w.heap.size w w' := by
  obtain ⟨a0, c0, rfl⟩ := h0.slice
  obtain ⟨a1, c1, rfl⟩ := h1.slice
  have hl1 := h1.len
  unfold maxLen at hl1
  by_cases hr1 : (1048576 : Int) < (L1.length : Int)
  · go_enter Tryd.func11, Tryd.ntmps11
    go_wp2
    go_ret
    exact ⟨rfl, (Below.refl _ _).alloc (by simp) _⟩
  have hr1' : L1.length ≤ 1048576 := by omega
  go_enter Tryd.func11, Tryd.ntmps11
  have R0_0 := Lib.hid h0
  have R1_0 := Lib.hid h1
  have ha1 : Below w.heap.size w (w.alloc (.cells #[.slice a0 L0.length c0] 55)) := ((Below.refl _ _).alloc (Nat.le_refl _) _)
  go_wp2_with fail
  refine (szGraph_any _ _ _ _ (R0_0.out.keep ha1) (by omega) (by omega)).mono ?_
  rintro e w1 ⟨rfl, hb1⟩
  have kb0_1 : w1.cell? ⟨w.heap.size, 0, none⟩ = some (.slice a0 L0.length c0) := by rw [hb1.cell (by first | (simp; done) | (simp; omega))]; go_simp
  have R0_1 := Lib.hid ((R0_0.out.keep ha1).keep hb1)
  have R1_1 := Lib.hid ((R1_0.out.keep ha1).keep hb1)
  have HB1 : Hid (Below w.heap.size w w1) := ha1.trans (hb1.mono (by first | (simp; done) | (simp; omega)))
  clear hb1 ha1 R0_0 R1_0
  by_cases hs0 : szGrid L0 1048576 < 0
  · go_wp2
    go_ret
    exact ⟨rfl, HB1.out⟩
  have hsm0 := (szGrid_small (L := L0) (left := 1048576) (by omega) (by omega)).1
  have hle0 := (szGrid_small (L := L0) (left := 1048576) (by omega) (by omega)).2
  go_wp2_with fail
  refine (toGraph_any _ _ _ R0_1.out hsm0).mono ?_
  rintro e w2 ⟨ns0, as0, cs0, rfl, hos0, hb2⟩
  have kb0_2 := cell_keep hb2 kb0_1
  have R0_2 := Lib.hid (R0_1.out.keep hb2)
  have R1_2 := Lib.hid (R1_1.out.keep hb2)
  have Rs0_2 := Lib.hid hos0.grid
  have HB2 : Hid (Below w.heap.size w w2) := HB1.out.trans (hb2.mono HB1.out.size)
  clear hb2 kb0_1 R0_1 R1_1 HB1
  go_wp2_with fail
  refine (toInt64S_gave _ _ _ R1_2.out hr1').mono ?_
  rintro e w3 ⟨ns1, as1, cs1, rfl, hos1, hb3⟩
  have kb0_3 := cell_keep hb3 kb0_2
  have R0_3 := Lib.hid (R0_2.out.keep hb3)
  have R1_3 := Lib.hid (R1_2.out.keep hb3)
  have Rs0_3 := Lib.hid (Rs0_2.out.keep hb3)
  have Rs1_3 := Lib.hid hos1.row
  have HB3 : Hid (Below w.heap.size w w3) := HB2.out.trans (hb3.mono HB2.out.size)
  clear hb3 kb0_2 R0_2 R1_2 Rs0_2 HB2
  go_wp2_with fail
  refine (specConnectedIn_any _ _ _ _ _ Rs0_3.out Rs1_3.out).mono ?_
  rintro e w4 ⟨rfl, hb4⟩
  have kb0_4 := cell_keep hb4 kb0_3
  have R0_4 := Lib.hid (R0_3.out.keep hb4)
  have R1_4 := Lib.hid (R1_3.out.keep hb4)
  have HB4 : Hid (Below w.heap.size w w4) := HB3.out.trans (hb4.mono HB3.out.size)
  clear hb4 kb0_3 R0_3 R1_3 HB3
  go_wp2_with fail
  refine (toGraph_any _ _ _ R0_4.out hsm0).mono ?_
  rintro e w5 ⟨nx0, ax0, cx0, rfl, hox0, hb5⟩
  have kb0_5 := cell_keep hb5 kb0_4
  have R0_5 := Lib.hid (R0_4.out.keep hb5)
  have R1_5 := Lib.hid (R1_4.out.keep hb5)
  have Rx0_5 := Lib.hid hox0.grid
  have HB5 : Hid (Below w.heap.size w w5) := HB4.out.trans (hb5.mono HB4.out.size)
  clear hb5 kb0_4 R0_4 R1_4 HB4
  have ha6 : Below w5.heap.size w5 (w5.alloc (.cells #[.slice ax0 nx0 cx0] 29)) := ((Below.refl _ _).alloc (Nat.le_refl _) _)
  have kb0_5a := cell_keep ha6 kb0_5
  go_wp2_with fail
  clear kb0_5a
  refine (toInt64S_gave _ _ _ (R1_5.out.keep ha6) hr1').mono ?_
  rintro e w6 ⟨nx1, ax1, cx1, rfl, hox1, hb6⟩
  have kb0_6 := cell_keep hb6 (cell_keep ha6 kb0_5)
  have kx0_6 : w6.cell? ⟨w5.heap.size, 0, none⟩ = some (.slice ax0 nx0 cx0) := by rw [hb6.cell (by first | (simp; done) | (simp; omega))]; go_simp
  have R0_6 := Lib.hid ((R0_5.out.keep ha6).keep hb6)
  have R1_6 := Lib.hid ((R1_5.out.keep ha6).keep hb6)
  have Rx0_6 := Lib.hid ((Rx0_5.out.keep ha6).keep hb6)
  have Rx1_6 := Lib.hid hox1.row
  have HB6 : Hid (Below w.heap.size w w6) := (HB5.out.trans (ha6.mono HB5.out.size)).trans (hb6.mono (by have := HB5.out.size; simp; omega))
  clear hb6 ha6 kb0_5 R0_5 R1_5 Rx0_5 HB5
  go_wp2_with fail
  refine (implConnectedIn_any _ _ _ _ _ Rx0_6.out Rx1_6.out (hT.keep HB6.out)).mono ?_
  rintro e w7 ⟨rfl, hb7⟩
  have kb0_7 := cell_keep hb7 kb0_6
  have kx0_7 := cell_keep hb7 kx0_6
  have R0_7 := Lib.hid (R0_6.out.keep hb7)
  have R1_7 := Lib.hid (R1_6.out.keep hb7)
  have Rx0_7 := Lib.hid (Rx0_6.out.keep hb7)
  have Rx1_7 := Lib.hid (Rx1_6.out.keep hb7)
  have HB7 : Hid (Below w.heap.size w w7) := HB6.out.trans (hb7.mono HB6.out.size)
  clear hb7 kb0_6 kx0_6 R0_6 R1_6 Rx0_6 Rx1_6 HB6
  go_wp2
  go_region_held3 (fun wx => wx.cell? ⟨w.heap.size, 0, none⟩ = some (.slice a0 L0.length c0) ∧ wx.cell? ⟨w5.heap.size, 0, none⟩ = some (.slice ax0 nx0 cx0)) (first | exact ⟨kb0_7, kx0_7⟩ | exact ⟨kb0_8r1, kx0_8r1⟩ | exact ⟨kb0_8r2, kx0_8r2⟩)
    (first | (go_at_call 53; refine (toGraph_any _ _ _ (R0_7.out.keep (Below.refl _ _).drew) hsm0).mono ?_; rintro e w8r1 ⟨ny0, ay0, cy0, rfl, hoy0, hb8r1⟩; have kb0_8r1 := cell_keep hb8r1 (cell_keep (Below.refl _ _).drew kb0_7); have kx0_8r1 := cell_keep hb8r1 (cell_keep (Below.refl _ _).drew kx0_7); have R0_8r1 := Lib.hid ((R0_7.out.keep (Below.refl _ _).drew).keep hb8r1); have R1_8r1 := Lib.hid ((R1_7.out.keep (Below.refl _ _).drew).keep hb8r1); have Rx0_8r1 := Lib.hid ((Rx0_7.out.keep (Below.refl _ _).drew).keep hb8r1); have Rx1_8r1 := Lib.hid ((Rx1_7.out.keep (Below.refl _ _).drew).keep hb8r1); have Ry0_8r1 := Lib.hid hoy0.grid; have HB8r1 : Hid (Below w.heap.size w w8r1) := HB7.out.drew.trans (hb8r1.mono HB7.out.size); clear hb8r1) | (go_at_call 55; refine (eqGraph_any _ _ _ _ _ Rx0_8r1.out Ry0_8r1.out).mono ?_; rintro e w8r2 ⟨rfl, hb8r2⟩; have kb0_8r2 := cell_keep hb8r2 kb0_8r1; have kx0_8r2 := cell_keep hb8r2 kx0_8r1; have R0_8r2 := Lib.hid (R0_8r1.out.keep hb8r2); have R1_8r2 := Lib.hid (R1_8r1.out.keep hb8r2); have Rx0_8r2 := Lib.hid (Rx0_8r1.out.keep hb8r2); have Rx1_8r2 := Lib.hid (Rx1_8r1.out.keep hb8r2); have Ry0_8r2 := Lib.hid (Ry0_8r1.out.keep hb8r2); have HB8r2 : Hid (Below w.heap.size w w8r2) := HB8r1.out.trans (hb8r2.mono HB8r1.out.size); clear hb8r2; rw [decide_eq_true rfl]))
  clear kb0_7 kx0_7 R0_7 R1_7 Rx0_7 Rx1_7 HB7 kb0_8r1 kx0_8r1 R0_8r1 R1_8r1 Rx0_8r1 Rx1_8r1 Ry0_8r1 HB8r1
  go_wp2_with fail
  refine (toInt64S_gave _ _ _ R1_8r2.out hr1').mono ?_
  rintro e w9 ⟨ny1, ay1, cy1, rfl, hoy1, hb9⟩
  have kb0_9 := cell_keep hb9 kb0_8r2
  have kx0_9 := cell_keep hb9 kx0_8r2
  have R0_9 := Lib.hid (R0_8r2.out.keep hb9)
  have R1_9 := Lib.hid (R1_8r2.out.keep hb9)
  have Rx0_9 := Lib.hid (Rx0_8r2.out.keep hb9)
  have Rx1_9 := Lib.hid (Rx1_8r2.out.keep hb9)
  have Ry1_9 := Lib.hid hoy1.row
  have HB9 : Hid (Below w.heap.size w w9) := HB8r2.out.trans (hb9.mono HB8r2.out.size)
  clear hb9 kb0_8r2 kx0_8r2 R0_8r2 R1_8r2 Rx0_8r2 Rx1_8r2 HB8r2
  go_wp2_with fail
  refine (eqInt64S_b _ _ _ _ _ Rx1_9.out Ry1_9.out).mono ?_
  rintro e w10 ⟨rfl, hb10⟩
  have kb0_10 := cell_keep hb10 kb0_9
  have kx0_10 := cell_keep hb10 kx0_9
  have R0_10 := Lib.hid (R0_9.out.keep hb10)
  have R1_10 := Lib.hid (R1_9.out.keep hb10)
  have Rx0_10 := Lib.hid (Rx0_9.out.keep hb10)
  have Rx1_10 := Lib.hid (Rx1_9.out.keep hb10)
  have HB10 : Hid (Below w.heap.size w w10) := HB9.out.trans (hb10.mono HB9.out.size)
  clear hb10 kb0_9 kx0_9 R0_9 R1_9 Rx0_9 Rx1_9 HB9
  rw [decide_eq_true rfl]
  go_wp2
  go_ret
  exact ⟨rfl, HB10.out⟩

end Go.Proofs.YtjbfoiolcpigfaaDoor

/- From what a row's form reads as data to our words: a slice of int64, a slice of such slices, a graph. -/
namespace Go.Proofs.YtjbfoiolcpigfaaDoor
open Go.ChangeShapes Go.WideShapes Go.ChangeAt Go.RowKit Go.Deep

theorem own : ownKnob Tryd.prog.godebug = none := by kernel_rfl
theorem laidOut : laidOutB Tryd.prog = true := by kernel_rfl

theorem i64_wf {n : Int} (h : (Lit.int .i64 n).wf = true) : I64 n := by
  have := bounds_i64 h
  unfold I64
  omega

section
variable {H : Type} {enc : TypeId × Value → H} {P : Program} {w : World} {base : Nat} {held : Bool}

theorem addr_none {a : Addr} {i : Nat} {v : Value} (h : w.cell? (a.add i) = some v) (hp : i = 0) : a.spot = none := by
  subst hp
  simpa [Addr.add] using World.cell?_spot h

theorem addr_form {a : Addr} (h : a.spot = none) (i : Nat) : a.add i = ⟨a.block, a.off + i, none⟩ := by
  obtain ⟨b, o, s⟩ := a
  simp at h
  subst h
  unfold Addr.add
  split
  · rename_i e; subst e; rfl
  · rfl

theorem rowAt_of {A : Option Addr} {n c : Nat} {zs : List Int} (hlen : zs.length = n) (hm : n ≤ maxLen) (hc : n ≤ c) (hcm : c ≤ maxLen) (hi : ∀ z ∈ zs, I64 z) (h0 : A = none → c = 0) (hcell : ∀ a, A = some a → ∀ i, i < n → w.cell? (a.add i) = some (.int .i64 (nth zs i))) : RowAt w (.slice A n c) zs := by
  refine ⟨hi, by omega, ?_⟩
  by_cases hz : n = 0
  · subst hz
    exact Or.inl ⟨List.length_eq_zero_iff.1 hlen, A, c, rfl, h0⟩
  · cases A with
    | none => exact absurd (h0 rfl) (by omega)
    | some a =>
      have hs := addr_none (hcell a rfl 0 (by omega)) rfl
      refine Or.inr ⟨a.block, a.off, c, ?_, by omega, hcm, fun i hi' => ?_⟩
      · obtain ⟨b, o, s⟩ := a
        simp at hs
        subst hs
        rw [hlen]
      · rw [← addr_form hs]
        exact hcell a rfl i (by omega)

theorem row_of_trod {t e : TypeId} {fuel : Nat} {v : Value} {x : DataW H × List MemPlace} (ht : P.underlying t = some (.slice e)) (he : P.underlying e = some (.int .i64)) (ce : P.cellsOf e = 1)
    (h : DataW.trod enc P w base (fun _ => true) held fuel t [v] = some x) : ∃ xs, RowAt w v xs := by
  rcases open_ints ht he ce h with ⟨hcs, _⟩ | ⟨a, l, c, zs, hcs, _, hl, hm, hz, _, hcell, hwz⟩
  · simp at hcs
    subst hcs
    exact ⟨[], by simp, by simp, Or.inl ⟨rfl, none, 0, rfl, fun _ => rfl⟩⟩
  · simp at hcs
    subst hcs
    simp only [if_true] at hz
    refine ⟨zs.take l, rowAt_of (by simp; omega) (by omega) hl hm (fun z hzz => i64_wf (hwz z (List.mem_of_mem_take hzz))) (by simp) (fun a' e i hi => ?_)⟩
    cases e
    rw [hcell i (by omega)]
    simp [nth, hi]

theorem grid_of_trod {t e q : TypeId} {fuel : Nat} {v : Value} {x : DataW H × List MemPlace} (ht : P.underlying t = some (.slice e)) (he : P.underlying e = some (.slice q)) (hq : P.underlying q = some (.int .i64)) (ce : P.cellsOf e = 1) (cq : P.cellsOf q = 1)
    (h : DataW.trod enc P w base (fun _ => true) held fuel t [v] = some x) : ∃ L, GridAt w v L := by
  rcases open_int_rows ht he hq ce cq h with ⟨hcs, _⟩ | ⟨a, len, cap, A, Ln, C, Z, hcs, _, hl, hm, _, hr⟩
  · simp at hcs
    subst hcs
    exact ⟨[], by simp, Or.inl ⟨rfl, none, 0, rfl, fun _ => rfl⟩⟩
  · simp at hcs
    subst hcs
    refine ⟨(List.range len).map (fun r => (Z r).take (Ln r)), by simp; omega, ?_⟩
    by_cases h0 : len = 0
    · subst h0
      exact Or.inl ⟨by simp, _, cap, rfl, fun h => by cases h⟩
    · have hs := addr_none (hr 0 (by omega)).1 rfl
      refine Or.inr ⟨a.block, a.off, cap, ?_, by simp; exact hl, hm, fun i hi => ?_⟩
      · obtain ⟨b, o, s⟩ := a
        simp at hs
        subst hs
        simp
      · have hi' : i < len := by simpa using hi
        obtain ⟨r1, r2, r3, r4, r5, r6, r7⟩ := hr i (by omega)
        refine ⟨.slice (A i) (Ln i) (C i), by rw [← addr_form hs]; exact r1, ?_⟩
        have e1 : nthR ((List.range len).map (fun r => (Z r).take (Ln r))) i = (Z i).take (Ln i) := by simp [nthR, hi']
        rw [e1]
        refine rowAt_of (by simp; omega) (by omega) r2 r3 (fun z hzz => i64_wf (r5 z (List.mem_of_mem_take hzz))) (fun e => r6 e) (fun a' e j hj => ?_)
        rw [(r7 a' e).2 j (by omega)]
        simp [nth, hj]

/-- A struct of one field of one cell, by value. -/
theorem open_agg1 {spare : Nat → Bool} {r : Reach} {b0 : Nat} {t : TypeId} {f0 : Field} {v : Value} {d : DataW H} {p : List MemPlace} (hs : P.underlying t = some (.struct #[f0])) (h0 : f0.offset = 0) (h1 : P.cellsOf f0.type = 1) (hC : P.cellsOf t = 1)
    (hv : Value.okWide P w r b0 t v) (h : DataW.Trod enc P w base spare held t v d p) :
    ∃ (v0 : Value) (y0 : DataW H × List MemPlace) (n : Nat), v = .agg #[v0] ∧ DataW.trod enc P w base spare held n f0.type [v0] = some y0 := by
  obtain ⟨cs, rfl, hsz⟩ := okWide_struct hs hv
  have h2 : cs.size = 1 := hsz.trans hC
  obtain ⟨c0, rfl⟩ : ∃ c, cs = #[c] := by
    obtain ⟨l⟩ := cs
    match l, h2 with
    | [c], _ => exact ⟨c, rfl⟩
  obtain ⟨fuel, hf⟩ := h
  obtain ⟨y0, n, _, _, h3⟩ := trod_struct1 hs hf
  exact ⟨c0, y0, n, rfl, by simpa [Value.cells, h0, h1] using h3⟩

end

theorem Tryd.cells24 : Tryd.prog.cellsOf 27 = 1 := by kernel_rfl
theorem Tryd.cells34 : Tryd.prog.cellsOf 36 = 1 := by kernel_rfl
theorem Tryd.cells2 : Tryd.prog.cellsOf 2 = 1 := by kernel_rfl
theorem Tryd.cells38 : Tryd.prog.cellsOf 55 = 1 := by kernel_rfl

set_option maxRecDepth 100000 in
/-- An argument of type laws.Graph, opened. -/
theorem open_graph {H : Type} {enc : TypeId × Value → H} {W : World} {b0 : Nat} {v : Value} {d : DataW H} {p : List MemPlace} (hv : Value.okWide Tryd.prog W .any b0 55 v) (h : DataW.Trod enc Tryd.prog W 0 (fun _ => true) true 55 v d p) :
    ∃ g L, v = .agg #[g] ∧ GridAt W g L := by
  obtain ⟨g, y0, n, rfl, h0⟩ := open_agg1 Tryd.underlying55 rfl Tryd.cells24 Tryd.cells38 hv h
  obtain ⟨L, hL⟩ := grid_of_trod Tryd.underlying27 Tryd.underlying36 Tryd.underlying2 Tryd.cells34 Tryd.cells2 h0
  exact ⟨g, L, rfl, hL⟩

set_option maxRecDepth 100000 in
/-- An argument of type []int64, opened. -/
theorem open_row {H : Type} {enc : TypeId × Value → H} {W : World} {b0 : Nat} {v : Value} {d : DataW H} {p : List MemPlace} (hv : Value.okWide Tryd.prog W .any b0 36 v) (h : DataW.Trod enc Tryd.prog W 0 (fun _ => true) true 36 v d p) :
    ∃ L, RowAt W v L := by
  obtain ⟨a0, len, cap, rfl⟩ := okWide_slice Tryd.underlying36 hv
  obtain ⟨fuel, hf⟩ := h
  obtain ⟨L, hL⟩ := row_of_trod Tryd.underlying36 Tryd.underlying2 Tryd.cells2 hf
  exact ⟨L, hL⟩

set_option maxRecDepth 100000 in
/-- An argument of type [][]int64, opened. -/
theorem open_grid {H : Type} {enc : TypeId × Value → H} {W : World} {b0 : Nat} {v : Value} {d : DataW H} {p : List MemPlace} (hv : Value.okWide Tryd.prog W .any b0 27 v) (h : DataW.Trod enc Tryd.prog W 0 (fun _ => true) true 27 v d p) :
    ∃ L, GridAt W v L := by
  obtain ⟨a0, len, cap, rfl⟩ := okWide_slice Tryd.underlying27 hv
  obtain ⟨fuel, hf⟩ := h
  obtain ⟨L, hL⟩ := grid_of_trod Tryd.underlying27 Tryd.underlying36 Tryd.underlying2 Tryd.cells34 Tryd.cells2 hf
  exact ⟨L, hL⟩

end Go.Proofs.YtjbfoiolcpigfaaDoor

/- What the row's condition on the library's table gives; the witness. -/
namespace Go.Proofs.YtjbfoiolcpigfaaDoor
open Go.ChangeShapes Go.WideShapes Go.ChangeAt Go.RowKit

/-- The list of the rows. -/
abbrev laidL : List (String × DataW Unit) := [("math/bits.deBruijn32tab", Rows.laid_math_bits_deBruijn32tab)]
theorem gTab : Tryd.prog.globalNamed "math/bits.deBruijn32tab" = some 0 := by kernel_rfl
theorem gTabT : (Tryd.prog.globals[0]?).map (·.type) = some 133 := by kernel_rfl
theorem tabA : Tryd.prog.underlying 133 = some (.array 32 5) := by kernel_rfl
theorem tabE : Tryd.prog.underlying 5 = some (.int .u8) := by kernel_rfl
theorem tabC : Tryd.prog.cellsOf 5 = 1 := by kernel_rfl
theorem tabN : Tryd.prog.cellsOf 133 = 32 := by kernel_rfl

theorem door_met (os : Os) (args : Array Value) : laidMetH Tryd.prog laidL ((World.doorLaid Tryd.prog 400 os).forCall (fun _ _ => 0) ⟨#[], args, []⟩).memory :=
  laidMetH_of_parts3 (fuel := 8) (laidMet_of_run' 8 (by kernel_rfl) (by kernel_rfl)) (by kernel_rfl) (by kernel_rfl)

theorem tab_of_laid {W : World} (h : laidMetH Tryd.prog laidL W) : TabAt W := by
  rw [MakeChecks.laidMetH_plain _ _ _ (by kernel_rfl)] at h
  have h2 : laidMet Tryd.prog [("math/bits.deBruijn32tab", Lib.tabData .u8 (Lib.deBruijn32tab.map (fun z : Nat => (z : Int))))] W := h
  have hT := Lib.tabIs_of_head gTab gTabT tabA tabE tabC tabN h2
  intro i hi
  have := hT.cell gTab i (by rw [List.length_map]; exact hi)
  rw [this]
  congr 2
  simp [List.getD_eq_getElem?_getD, hi]

end Go.Proofs.YtjbfoiolcpigfaaDoor
