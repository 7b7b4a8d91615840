/- The texts N8, N9, P1, joined. -/
import Derived.Test.YtikfbfclbmlopaaQ3
import Derived.Deep.AppendLies

/- Walks: an edge added. -/
namespace Go.Proofs.Ytikfbfclbmlopaa
open Go.RowKit

theorem listM_rise (M : Nat) : ∀ i j, i < j → j < (listM M).length → nth (listM M) i < nth (listM M) j := by
  intro i j hij hj
  have := List.pairwise_iff_getElem.1 (listM_set M).pairwise i j (by omega) hj hij
  rwa [nth_eq (by omega), nth_eq hj]
theorem rowWith_mask (v : Value) (M x : Nat) (w : World) (h : RowAt w v (listM M)) (hx : x < 16) (hn : M.testBit x = false) : Calls Try.prog 93 #[v, .int .i64 (x : Int)] w (GaveRow w (listM (M ||| 2 ^ x))) := by
  refine (rowWith_any v (listM M) (x : Int) w h (by unfold I64; omega) (by have := listM_len M; omega) (listM_rise M)).mono ?_
  rintro e w' ⟨k, hk, hlo, hhi, hg⟩
  rw [into_list hx hk hlo ?_] at hg
  · exact hg
  · by_cases e : k = (listM M).length
    · exact Or.inl e
    · right
      have h1 := hhi k (Nat.le_refl _) (by omega)
      have h2 : nth (listM M) k ≠ (x : Int) := by
        intro e2
        have := (listM_mem M (x : Int)).1 (e2 ▸ nth_mem (by omega))
        obtain ⟨i, _, h3, h4⟩ := this
        have : i = x := by omega
        subst this
        rw [hn] at h3
        cases h3
      omega

/-- May this edge be added? -/
def addB (L : List (List Int)) (u x : Int) : Bool := pairB L u x && !hasB (nthR L u.toNat) x
/-- The graph with it. -/
def addEL (L : List (List Int)) (u x : Int) : List (List Int) := if addB L u x = true then (L.set u.toNat (listM (rowM L u.toNat ||| 2 ^ x.toNat))).set x.toNat (listM (rowM L x.toNat ||| 2 ^ u.toNat)) else []
theorem addEL_no {L : List (List Int)} {u x : Int} (h : addB L u x = false) : addEL L u x = [] := by rw [addEL, h]; rfl
theorem pairB_nat {L : List (List Int)} {u x : Int} (h : pairB L u x = true) : GraphP L ∧ ∃ p q : Nat, u = (p : Int) ∧ x = (q : Int) ∧ p < L.length ∧ q < L.length ∧ p ≠ q := by
  unfold pairB inB at h
  simp at h
  obtain ⟨⟨⟨hG, hu⟩, hx⟩, hne⟩ := h
  exact ⟨hG, u.toNat, x.toNat, by omega, by omega, by omega, by omega, by omega⟩
theorem addB_nat {L : List (List Int)} {u x : Int} (h : addB L u x = true) : GraphP L ∧ ∃ p q : Nat, u = (p : Int) ∧ x = (q : Int) ∧ p < L.length ∧ q < L.length ∧ p ≠ q ∧ adjB L p q = false := by
  unfold addB at h
  rw [Bool.and_eq_true, Bool.not_eq_true'] at h
  obtain ⟨hG, p, q, rfl, rfl, hp, hq, hpq⟩ := pairB_nat h.1
  refine ⟨hG, p, q, rfl, rfl, hp, hq, hpq, ?_⟩
  have := h.2
  have hz := hG.1
  rwa [Int.toNat_natCast, adjB_has hG hp (by omega)] at this
theorem addEL_small (L : List (List Int)) (u x : Int) : Small (addEL L u x) := by
  unfold addEL
  split
  · rename_i h
    obtain ⟨hG, p, q, rfl, rfl, hp, hq, _, _⟩ := addB_nat h
    exact small_set (small_set (graph_small hG) (by have := listM_len (rowM L (p : Int).toNat ||| 2 ^ (q : Int).toNat); omega)) (by have := listM_len (rowM L (q : Int).toNat ||| 2 ^ (p : Int).toNat); omega)
  · exact ⟨by simp, fun i hi => absurd hi (by simp)⟩
theorem Two.keepB {w0 : World} {v : Value} {w w' : World} {B : Nat} (h : Two w0 v w) (hb : Below B w w') (hB : w0.heap.size + 1 < B) : Two w0 v w' :=
  ⟨h.arg.keepB hb (by omega), h.res.keepB hb hB, h.bel.trans (hb.mono (by omega))⟩

set_option maxHeartbeats 1600000 in
theorem specAddedEdge_any (v : Value) (L : List (List Int)) (u x : Int) (w : World) (h : GridAt w v L) (_hu : I64 u) (_hx : I64 x) : Calls Try.prog 47 #[.agg #[v], .int .i64 u, .int .i64 x] w (GaveGB w (addEL L u x) (addB L u x)) := by
  obtain ⟨a0, c0, rfl⟩ := h.slice
  have T0 := Lib.hid (Two.start w (.slice a0 L.length c0))
  have HGK : Hid (∀ w', Below w.heap.size w w' → GridAt w' (.slice a0 L.length c0) L) := fun w' hb => h.keep hb
  clear h
  go_enter Try.func47, Try.ntmps47
  go_wp2_with fail
  refine (l2Pair_any _ L u x _ (HGK.out _ T0.out.bel)).mono ?_
  rintro e w1 ⟨rfl, hb1⟩
  have T1 := Lib.hid (T0.out.keep hb1)
  clear hb1 T0
  by_cases hP : pairB L u x = true
  · have HPP := Lib.hid hP
    obtain ⟨hG, p, q, rfl, rfl, hp, hq, hpq⟩ := pairB_nat hP
    have HG := Lib.hid hG
    have hz := hG.1
    have kb1 := T1.out.arg.1
    rw [hP]
    clear hP hG
    go_wp2_with fail
    refine (l1Edge_any _ L (p : Int) (q : Int) _ (HGK.out _ T1.out.bel) (by omega) (by omega)).mono ?_
    rintro e w2 ⟨rfl, hb2⟩
    have T2 := Lib.hid (T1.out.keep hb2)
    clear hb2 kb1 T1
    by_cases hH : hasB (nthR L (p : Int).toNat) (q : Int) = true
    · have HI : Hid (addB L (p : Int) (q : Int) = false) := by show addB L _ _ = false; unfold addB; rw [hH]; simp
      have kr := T2.out.res.1
      have kf := T2.out.res.2
      rw [hH]
      clear hH
      go_wp2
      exact bodyPost_ret (v := .tuple #[.agg #[.slice none 0 0], .bool false]) (by simp [results, Try.results47, go_sem, T2.out.q0]) rfl (T2.out.no (addEL_no HI.out) HI.out)
    · have hH' : hasB (nthR L (p : Int).toNat) (q : Int) = false := by simpa using hH
      have HI : Hid (addB L (p : Int) (q : Int) = true) := by show addB L _ _ = true; unfold addB; rw [hH', HPP.out]; rfl
      have kb2 := T2.out.arg.1
      rw [hH']
      clear hH hH'
      go_wp2_with fail
      refine (l1CopyGraph_any _ L _ (HGK.out _ T2.out.bel) (graph_small HG.out)).mono ?_
      rintro e w3 ⟨n3, a3, c3, rfl, ho3, hb3⟩
      have T3 := Lib.hid (T2.out.keep hb3)
      obtain ⟨g, cap, eg, hBg, hgs, _⟩ := ho3.place (by omega)
      simp only [Value.slice.injEq] at eg
      obtain ⟨rfl, rfl, rfl⟩ := eg
      have HO3 := Lib.hid ho3
      have hz3 : w2.heap.size ≤ w3.heap.size := hb3.size
      clear ho3 hb3 kb2
      go_wp2_with fail
      refine (l1Link_own p q g c3 w2.heap.size L _ HO3.out hz3 hp hq hz.2 hpq (rowM L p) (rowM L q) (row_list HG.out hp).symm (row_list HG.out hq).symm).mono ?_
      rintro e w4 ⟨rfl, ho4, hb4, -⟩
      have T4 := Lib.hid (T3.out.keepB hb4 T2.out.lt)
      have kr := T4.out.res.1
      have kf := T4.out.res.2
      have HO4 := Lib.hid ho4
      clear ho4 hb4
      go_wp2
      refine bodyPost_ret (v := .tuple #[.agg #[.slice (some ⟨g, 0, none⟩) L.length c3], .bool true]) (by simp [results, Try.results47, go_sem, T4.out.q0]) rfl (T4.out.yes (B := w2.heap.size) ?_ T2.out.lt HI.out)
      rw [addEL, if_pos HI.out, Int.toNat_natCast, Int.toNat_natCast]
      exact HO4.out
  · have hP' : pairB L u x = false := by simpa using hP
    have HI : Hid (addB L u x = false) := by show addB L u x = false; unfold addB; rw [hP', Bool.false_and]
    have kr := T1.out.res.1
    have kf := T1.out.res.2
    rw [hP']
    clear hP hP'
    go_wp2
    exact bodyPost_ret (v := .tuple #[.agg #[.slice none 0 0], .bool false]) (by simp [results, Try.results47, go_sem, T1.out.q0]) rfl (T1.out.no (addEL_no HI.out) HI.out)

set_option maxHeartbeats 3200000 in
set_option maxRecDepth 100000 in
theorem implAddedEdge_any (v : Value) (L : List (List Int)) (u x : Int) (w : World) (h : GridAt w v L) (hu : I64 u) (hx : I64 x) : Calls Try.prog 39 #[.agg #[v], .int .i64 u, .int .i64 x] w (GaveGB w (addEL L u x) (addB L u x)) := by
  have hl := h.len
  unfold maxLen at hl
  obtain ⟨a0, c0, rfl⟩ := h.slice
  have T0 := Lib.hid (Two.start w (.slice a0 L.length c0))
  have HGK : Hid (∀ w', Below w.heap.size w w' → GridAt w' (.slice a0 L.length c0) L) := fun w' hb => h.keep hb
  clear h
  go_enter Try.func39, Try.ntmps39
  go_wp2_with fail
  refine (implGraphOk_any _ L _ (HGK.out _ T0.out.bel)).mono ?_
  rintro e w1 ⟨rfl, hb1⟩
  have T1 := Lib.hid (T0.out.keep hb1)
  clear hb1 T0
  by_cases hG : GraphP L
  · have HG := Lib.hid hG
    have hz := hG.1
    rw [decide_eq_true hG]
    clear hG
    by_cases hu1 : 0 ≤ u ∧ u < (L.length : Int)
    · have HDU : Hid (decide (0 ≤ u ∧ u < (L.length : Int)) = true) := decide_eq_true hu1
      by_cases hx1 : 0 ≤ x ∧ x < (L.length : Int)
      · have HDX : Hid (decide (0 ≤ x ∧ x < (L.length : Int)) = true) := decide_eq_true hx1
        by_cases hux : u = x
        · have HI : Hid (addB L u x = false) := by show addB L u x = false; unfold addB pairB; rw [hux]; simp
          have heq : (u == x) = true := by rw [hux]; simp
          have kr := T1.out.res.1
          have kf := T1.out.res.2
          clear hux hu1 hx1
          go_wp2_with fail
          refine (isVertex_any _ _ _).mono ?_
          rintro e w' ⟨rfl, rfl⟩
          rw [HDU.out]
          go_wp2_with fail
          refine (isVertex_any _ _ _).mono ?_
          rintro e w' ⟨rfl, rfl⟩
          rw [HDX.out]
          go_wp2
          exact bodyPost_ret (v := .tuple #[.agg #[.slice none 0 0], .bool false]) (by simp [results, Try.results39, go_sem, T1.out.q0]) rfl (T1.out.no (addEL_no HI.out) HI.out)
        · have HPP : Hid (pairB L u x = true) := by
            show pairB L u x = true
            unfold pairB inB
            rw [decide_eq_true HG.out, decide_eq_true (by omega : 0 ≤ u ∧ u ≤ (L.length : Int) - 1), decide_eq_true (by omega : 0 ≤ x ∧ x ≤ (L.length : Int) - 1)]
            have : (u != x) = true := by rw [bne_iff_ne]; exact hux
            rw [this]; rfl
          have heq : (u == x) = false := by rw [beq_eq_false_iff_ne]; exact hux
          have kb1 := T1.out.arg.1
          clear hux hu1 hx1
          go_wp2_with fail
          refine (isVertex_any _ _ _).mono ?_
          rintro e w' ⟨rfl, rfl⟩
          rw [HDU.out]
          go_wp2_with fail
          refine (isVertex_any _ _ _).mono ?_
          rintro e w' ⟨rfl, rfl⟩
          rw [HDX.out]
          go_wp2_with fail
          refine (implEdgeIn_any _ L u x _ (HGK.out _ T1.out.bel) hu hx).mono ?_
          rintro e w2 ⟨rfl, hb2⟩
          have T2 := Lib.hid (T1.out.keep hb2)
          clear hb2 kb1 T1
          by_cases hE : edgeB L u x = true
          · have HI : Hid (addB L u x = false) := by
              show addB L u x = false
              rw [edgeB_pair, Bool.and_eq_true] at hE
              unfold addB
              rw [hE.2]; simp
            have kr := T2.out.res.1
            have kf := T2.out.res.2
            rw [hE]
            clear hE
            go_wp2
            exact bodyPost_ret (v := .tuple #[.agg #[.slice none 0 0], .bool false]) (by simp [results, Try.results39, go_sem, T2.out.q0]) rfl (T2.out.no (addEL_no HI.out) HI.out)
          · have hE' : edgeB L u x = false := by simpa using hE
            have HI : Hid (addB L u x = true) := by
              show addB L u x = true
              rw [edgeB_pair, HPP.out, Bool.true_and] at hE'
              unfold addB
              rw [HPP.out, hE']; rfl
            have kb2 := T2.out.arg.1
            rw [hE']
            clear hE hE' heq
            obtain ⟨-, p, q, rfl, rfl, hp, hq, hpq, hadj⟩ := addB_nat HI.out
            have hadj2 : adjB L q p = false := by rw [adjB_sym HG.out]; exact hadj
            have HA1 := Lib.hid hadj
            have HA2 := Lib.hid hadj2
            clear hadj hadj2
            go_wp2_with fail
            refine (copied_any _ L _ (HGK.out _ T2.out.bel) (graph_small HG.out)).mono ?_
            rintro e w3 ⟨n2, a2, c2, rfl, ho2, hb2⟩
            obtain ⟨rfl, g, rfl, hwk⟩ := WorkL.start T2.out hb2 ho2 (by omega)
            obtain ⟨bg, og, cg, A, C, eg, lg1, lg2, hcg⟩ := (HGK.out _ (Below.refl _ _)).pos (by omega)
            simp only [Value.slice.injEq, true_and] at eg
            obtain ⟨rfl, rfl⟩ := eg
            have hbgl : bg < w.heap.size := block_lt_of_cell (hcg p hp).1
            have HKC : Hid (∀ i, i < L.length → ∀ w', Below w.heap.size w w' → w'.cell? ⟨bg, og + i, none⟩ = some (.slice (A i) (nthR L i).length (C i)) ∧ RowAt w' (.slice (A i) (nthR L i).length (C i)) (listM (rowM L i))) := fun i hi w' hb => ⟨cell_keep hb (hcg i hi).1, by rw [row_list HG.out hi]; exact (hcg i hi).2.keep hb⟩
            have HWK := Lib.hid hwk
            have hpI : (p : Int) < (L.length : Int) := by omega
            have hqI : (q : Int) < (L.length : Int) := by omega
            have hq16 : q < 16 := by omega
            have hp16 : p < 16 := by omega
            clear hb2 ho2 kb2 hcg hwk
            go_wp2_with fail
            generalize hw4 : (w3.alloc (.cells #[.slice (some ⟨g, 0, none⟩) L.length c2] 26)) = w4 at HWK ⊢
            clear hw4
            have k8 := HWK.out.box.box.1
            have k3 := HWK.out.two.arg.1
            have kg := (HKC.out p hp _ HWK.out.two.bel).1
            obtain ⟨hBg, hgs, ap, mp, cp, kp, fp, -⟩ := HWK.out.at (i := p) hp
            have hlow := HWK.out.low
            have HKP := Lib.hid kp
            have HFP := Lib.hid fp
            have hne8 := HWK.out.ne
            clear kp fp
            go_region_held3 (fun wx => wx.cell? ⟨w3.heap.size, 0, none⟩ = some (.slice (some ⟨g, 0, none⟩) L.length c2) ∧ wx.cell? ⟨w.heap.size, 0, none⟩ = some (.slice (some ⟨bg, og, none⟩) L.length c0) ∧ wx.cell? ⟨bg, og + p, none⟩ = some (.slice (A p) (nthR L p).length (C p))) (first | exact ⟨k8, k3, kg⟩ | exact ⟨k8a, k3a, kga⟩ | exact ⟨cell_set_blk _ (fun e => hne8 e.symm) k8a, cell_set_blk _ (fun e => by simp at e; omega) k3a, cell_set_blk _ (fun e => by simp at e; omega) kga⟩)
              ((go_at_call 93; refine (rowWith_mask _ (rowM L p) q _ ((HKC.out p hp _ HWK.out.two.bel).2.keep (Below.refl _ _).drew) hq16 HA1.out).mono ?_; rintro e w5 ⟨n5, a5, c5, rfl, ho5, hb5⟩; have HB5 : Hid (Below w4.heap.size w4 w5) := (Below.refl _ _).drew.trans hb5; have k8a := cell_keep HB5.out k8; have k3a := cell_keep HB5.out k3; have kga := cell_keep HB5.out kg; have kpa := cell_keep HB5.out HKP.out; have fpa : w5.frozen? ⟨g, p, none⟩ = false := (by rw [HB5.out.frozen hgs]; exact HFP.out); have HO5 : Hid (OwnRow 2 w5 w4.heap.size (.slice a5 n5 c5) (listM (rowM L p ||| 2 ^ q))) := ho5; clear ho5 hb5))
            have hw6 := HWK.out.set HB5.out HO5.out hp
            clear kpa fpa k8a k3a kga k8 k3 kg HKP HFP HO5 HB5 HWK hne8 hBg hgs
            rename_i hHeld
            clear hHeld
            generalize (w5.setCell ⟨g, p, none⟩ (.slice a5 n5 c5)) = w6 at hw6 ⊢
            have hq' : q < (L.set p (listM (rowM L p ||| 2 ^ q))).length := by rw [List.length_set]; exact hq
            have HWK := Lib.hid hw6
            have k8 := HWK.out.box.box.1
            have k3 := HWK.out.two.arg.1
            have kg := (HKC.out q hq _ HWK.out.two.bel).1
            obtain ⟨hBg, hgs, ap, mp, cp, kp, fp, -⟩ := HWK.out.at (i := q) hq'
            have HKP := Lib.hid kp
            have HFP := Lib.hid fp
            have hne8 := HWK.out.ne
            clear kp fp hw6
            go_wp2_with fail
            go_region_held3 (fun wx => wx.cell? ⟨w3.heap.size, 0, none⟩ = some (.slice (some ⟨g, 0, none⟩) L.length c2) ∧ wx.cell? ⟨w.heap.size, 0, none⟩ = some (.slice (some ⟨bg, og, none⟩) L.length c0) ∧ wx.cell? ⟨bg, og + q, none⟩ = some (.slice (A q) (nthR L q).length (C q))) (first | exact ⟨k8, k3, kg⟩ | exact ⟨k8a, k3a, kga⟩ | exact ⟨cell_set_blk _ (fun e => hne8 e.symm) k8a, cell_set_blk _ (fun e => by simp at e; omega) k3a, cell_set_blk _ (fun e => by simp at e; omega) kga⟩)
              ((go_at_call 93; refine (rowWith_mask _ (rowM L q) p _ ((HKC.out q hq _ HWK.out.two.bel).2.keep (Below.refl _ _).drew) hp16 HA2.out).mono ?_; rintro e w7 ⟨n7, a7, c7, rfl, ho7, hb7⟩; have HB7 : Hid (Below w6.heap.size w6 w7) := (Below.refl _ _).drew.trans hb7; have k8a := cell_keep HB7.out k8; have k3a := cell_keep HB7.out k3; have kga := cell_keep HB7.out kg; have kpa := cell_keep HB7.out HKP.out; have fpa : w7.frozen? ⟨g, q, none⟩ = false := (by rw [HB7.out.frozen hgs]; exact HFP.out); have HO7 : Hid (OwnRow 2 w7 w6.heap.size (.slice a7 n7 c7) (listM (rowM L q ||| 2 ^ p))) := ho7; clear ho7 hb7))
            have hw8 := HWK.out.set HB7.out HO7.out hq'
            clear kpa fpa k8a k3a kga k8 k3 kg HKP HFP HO7 HB7 HWK hne8 hBg hgs
            rename_i hHeld
            clear hHeld
            generalize (w7.setCell ⟨g, q, none⟩ (.slice a7 n7 c7)) = w8 at hw8 ⊢
            have HW8 := Lib.hid hw8
            have k8 := HW8.out.box.box.1
            have kr := HW8.out.two.res.1
            have kf := HW8.out.two.res.2
            have HEL : Hid (addEL L (p : Int) (q : Int) = (L.set p (listM (rowM L p ||| 2 ^ q))).set q (listM (rowM L q ||| 2 ^ p))) := by show _ = _; rw [addEL, if_pos HI.out, Int.toNat_natCast, Int.toNat_natCast]
            clear hw8
            go_wp2
            refine bodyPost_ret (v := .tuple #[.agg #[.slice (some ⟨g, 0, none⟩) L.length c2], .bool true]) (by simp [results, Try.results39, go_sem, HW8.out.two.q0]) rfl ?_
            rw [HEL.out]
            exact HW8.out.done HI.out
      · have HDX : Hid (decide (0 ≤ x ∧ x < (L.length : Int)) = false) := decide_eq_false hx1
        have HI : Hid (addB L u x = false) := by
          show addB L u x = false
          unfold addB pairB inB
          rw [decide_eq_false (by omega : ¬ (0 ≤ x ∧ x ≤ (L.length : Int) - 1))]; simp
        have kr := T1.out.res.1
        have kf := T1.out.res.2
        clear hu1 hx1
        go_wp2_with fail
        refine (isVertex_any _ _ _).mono ?_
        rintro e w' ⟨rfl, rfl⟩
        rw [HDU.out]
        go_wp2_with fail
        refine (isVertex_any _ _ _).mono ?_
        rintro e w' ⟨rfl, rfl⟩
        rw [HDX.out]
        go_wp2
        exact bodyPost_ret (v := .tuple #[.agg #[.slice none 0 0], .bool false]) (by simp [results, Try.results39, go_sem, T1.out.q0]) rfl (T1.out.no (addEL_no HI.out) HI.out)
    · have HDU : Hid (decide (0 ≤ u ∧ u < (L.length : Int)) = false) := decide_eq_false hu1
      have HI : Hid (addB L u x = false) := by
        show addB L u x = false
        unfold addB pairB inB
        rw [decide_eq_false (by omega : ¬ (0 ≤ u ∧ u ≤ (L.length : Int) - 1))]; simp
      have kr := T1.out.res.1
      have kf := T1.out.res.2
      clear hu1
      go_wp2_with fail
      refine (isVertex_any _ _ _).mono ?_
      rintro e w' ⟨rfl, rfl⟩
      rw [HDU.out]
      go_wp2
      exact bodyPost_ret (v := .tuple #[.agg #[.slice none 0 0], .bool false]) (by simp [results, Try.results39, go_sem, T1.out.q0]) rfl (T1.out.no (addEL_no HI.out) HI.out)
  · have HI : Hid (addB L u x = false) := by show addB L u x = false; unfold addB pairB; rw [decide_eq_false hG]; simp
    have kr := T1.out.res.1
    have kf := T1.out.res.2
    rw [decide_eq_false hG]
    clear hG
    go_wp2
    exact bodyPost_ret (v := .tuple #[.agg #[.slice none 0 0], .bool false]) (by simp [results, Try.results39, go_sem, T1.out.q0]) rfl (T1.out.no (addEL_no HI.out) HI.out)

end Go.Proofs.Ytikfbfclbmlopaa

/- Walks: a vertex added: the model's. -/
namespace Go.Proofs.Ytikfbfclbmlopaa
open Go.RowKit

/-- May a vertex with these neighbours be added? -/
def avB (L : List (List Int)) (xs : List Int) : Bool := setB L xs && !((L.length : Int) == 16)
theorem avB_yes {L : List (List Int)} {xs : List Int} (h : avB L xs = true) : GraphP L ∧ SetP xs L.length ∧ L.length < 16 ∧ xs.length ≤ 16 := by
  unfold avB setB at h
  simp at h
  have := h.1.2.len (by omega)
  have := h.1.1.1
  exact ⟨h.1.1, h.1.2, by omega, by omega⟩
/-- Who is near whom when the new vertex has been joined to ys. -/
def avA (L : List (List Int)) (ys : List Int) (i j : Nat) : Bool := adjB L i j || (i == L.length && hasB ys (j : Int)) || (j == L.length && hasB ys (i : Int))
theorem hasB_nil (z : Int) : hasB [] z = false := by cases h : hasB [] z with | false => rfl | true => (rw [hasB_iff] at h; obtain ⟨q, hq, _⟩ := h; simp at hq)
theorem avA_link (L : List (List Int)) {y : Nat} (ys : List Int) (i j : Nat) : avA L (ys ++ [(y : Int)]) i j = linkA (avA L ys) y L.length i j := by
  unfold linkA avA
  rw [hasB_snoc, hasB_snoc]
  have c1 : ((j : Int) == (y : Int)) = (j == y) := by rw [Bool.eq_iff_iff, beq_iff_eq, beq_iff_eq]; omega
  have c2 : ((i : Int) == (y : Int)) = (i == y) := by rw [Bool.eq_iff_iff, beq_iff_eq, beq_iff_eq]; omega
  rw [c1, c2]
  cases adjB L i j <;> cases (i == L.length) <;> cases (j == L.length) <;> cases hasB ys (j : Int) <;> cases hasB ys (i : Int) <;> cases (i == y) <;> cases (j == y) <;> rfl
/-- The answer. -/
def avL (L : List (List Int)) (xs : List Int) : List (List Int) := if avB L xs = true then adjL (L.length + 1) (avA L xs) else []
theorem avL_no {L : List (List Int)} {xs : List Int} (h : avB L xs = false) : avL L xs = [] := by rw [avL, h]; rfl
theorem avL_small (L : List (List Int)) (xs : List Int) : Small (avL L xs) := by
  unfold avL
  split
  · rename_i h
    exact adjL_small _ _ (by have := (avB_yes h).2.2.1; omega)
  · exact ⟨by simp, fun i hi => absurd hi (by simp)⟩
theorem avA_start {L : List (List Int)} (hG : GraphP L) : L ++ [[]] = adjL (L.length + 1) (avA L []) := by
  apply nthR_ext
  · simp [adjL_len]
  · intro i hi
    rw [List.length_append, List.length_singleton] at hi
    rw [adjL_nth _ hi]
    have e : ∀ j, avA L [] i j = adjB L i j := fun j => by unfold avA; rw [hasB_nil, hasB_nil]; simp
    rw [pm_congr (fun j _ => e j)]
    by_cases h : i < L.length
    · rw [nthR_append_old h, ← rowM_pm hG, row_list hG h]
    · obtain rfl : i = L.length := by omega
      rw [nthR_append_last]
      have : pm (adjB L L.length) = 0 := by
        rw [← pm_false]
        refine pm_congr (fun j _ => ?_)
        cases hb : adjB L L.length j with
        | false => rfl
        | true => exact absurd (adjB_range hG hb).1 (by omega)
      rw [this, listM_zero]

set_option maxHeartbeats 3200000 in
set_option maxRecDepth 100000 in
theorem specAddedVertex_any (v v1 : Value) (L : List (List Int)) (xs : List Int) (w : World) (h : GridAt w v L) (h1 : RowAt w v1 xs) : Calls Try.prog 53 #[.agg #[v], v1] w (GaveGB w (avL L xs) (avB L xs)) := by
  obtain ⟨i0, hi, hz0, hz1, hz2⟩ := info_parts Try.infoR
  obtain ⟨a0, c0, rfl⟩ := h.slice
  obtain ⟨a1, c1, rfl⟩ := h1.slice
  have hlm := h1.len
  unfold maxLen at hlm
  have T0 := Lib.hid (Two.start w (.slice a0 L.length c0))
  have HGK : Hid (∀ w', Below w.heap.size w w' → GridAt w' (.slice a0 L.length c0) L) := fun w' hb => h.keep hb
  have HRK : Hid (∀ w', Below w.heap.size w w' → RowAt w' (.slice a1 xs.length c1) xs) := fun w' hb => h1.keep hb
  clear h h1
  go_enter Try.func53, Try.ntmps53
  go_wp2_with fail
  refine (specSetOk_any _ _ _ _ _ (HGK.out _ T0.out.bel) (HRK.out _ T0.out.bel)).mono ?_
  rintro e w1 ⟨rfl, hb1⟩
  have T1 := Lib.hid (T0.out.keep hb1)
  clear hb1 T0
  by_cases hS : setB L xs = true
  · have HSB := Lib.hid hS
    have kb1 := T1.out.arg.1
    rw [hS]
    clear hS
    go_wp2_with fail
    refine (l1Size_any _ L _ (HGK.out _ T1.out.bel)).mono ?_
    rintro e w2 ⟨rfl, hb2⟩
    have T2 := Lib.hid (T1.out.keep hb2)
    clear hb2 T1 kb1
    by_cases h16 : L.length = 16
    · have HI : Hid (avB L xs = false) := by show avB L xs = false; unfold avB; rw [h16]; simp
      have he : ((L.length : Int) == 16) = true := by rw [h16]; rfl
      have kr := T2.out.res.1
      have kf := T2.out.res.2
      clear h16
      go_wp2
      exact bodyPost_ret (v := .tuple #[.agg #[.slice none 0 0], .bool false]) (by simp [results, Try.results53, go_sem, T2.out.q0]) rfl (T2.out.no (avL_no HI.out) HI.out)
    · have he : ((L.length : Int) == 16) = false := by rw [beq_eq_false_iff_ne]; omega
      have HI : Hid (avB L xs = true) := by show avB L xs = true; unfold avB; rw [HSB.out, he]; rfl
      obtain ⟨hG, hs, hlt16, hx16⟩ := avB_yes HI.out
      have HG := Lib.hid hG
      have HS := Lib.hid hs
      have hz := hG.1
      have kb2 := T2.out.arg.1
      clear h16 hG hs
      go_wp2_with fail
      refine (l1CopyGraph_any _ L _ (HGK.out _ T2.out.bel) (graph_small HG.out)).mono ?_
      rintro e w3 ⟨n2, a2, c2, rfl, ho2, hb2⟩
      obtain ⟨rfl, g, rfl, hwk⟩ := WorkL.start T2.out hb2 ho2 (by omega)
      obtain ⟨R, hR, hRr, hRd⟩ := hwk.own.owns
      have HWK := Lib.hid hwk
      have HR := Lib.hid hR
      have HRr := Lib.hid hRr
      have HRd := Lib.hid hRd
      have k6 := hwk.box.box.1
      have hz2' : w.heap.size + 1 < w2.heap.size := T2.out.lt
      have hz3 : w2.heap.size ≤ w3.heap.size := hb2.size
      have hz4 : w2.heap.size ≤ (w3.alloc (.cells #[.slice (some ⟨g, 0, none⟩) L.length c2] 26)).heap.size := by rw [size_alloc1]; omega
      clear ho2 hb2 hR hRr hRd kb2 hwk
      go_wp2_with (at_builtin; refine wpList_append_own _ rfl (.tmp 21) (.tmp 23) 24 rfl w2.heap.size 34 i0 (.slice none 0 0) 1 24 Try.underlying24 hi hz0 hz1 hz2 rfl (by decide) _ _ _ rfl ((HR.out.alloc _).alloc _) ⟨w3.heap.size + 1 + 1, 0, none⟩ 1 1 [.slice (some ⟨w3.heap.size + 1, 0, none⟩) 0 0] rfl rfl ?c1 ?c2 ?c3 ?c4 ?c5 ?_)
      case c1 =>
        have hq := World.news_of_block (heap_alloc_new ((w3.alloc (.cells #[.slice (some ⟨g, 0, none⟩) L.length c2] 26)).alloc (.cells #[] 2)) (.cells #[.slice (some ⟨w3.heap.size + 1, 0, none⟩) 0 0] 34))
        rw [size_alloc1, size_alloc1] at hq
        exact hq
      case c2 => intro u hu; simp at hu; subst hu; rfl
      case c3 => unfold maxLen; omega
      case c4 => omega
      case c5 => simp; omega
      intro v' w5 hown' hgrow _
      have hbA : Below (w3.alloc (.cells #[.slice (some ⟨g, 0, none⟩) L.length c2] 26)).heap.size (w3.alloc (.cells #[.slice (some ⟨g, 0, none⟩) L.length c2] 26)) (((w3.alloc (.cells #[.slice (some ⟨g, 0, none⟩) L.length c2] 26)).alloc (.cells #[] 2)).alloc (.cells #[.slice (some ⟨w3.heap.size + 1, 0, none⟩) 0 0] 34)) := ((Below.refl _ _).alloc (Nat.le_refl _) _).alloc (by simp) _
      have hog' : OwnGrid 2 34 w5 w2.heap.size v' (L ++ [[]]) := by
        refine OwnGrid.snoc (w0 := w3.alloc (.cells #[.slice (some ⟨g, 0, none⟩) L.length c2] 26)) (n := L.length) (by decide) hbA hz4 ?_ rfl (by unfold maxLen; omega) R HR.out HRr.out HRd.out hown' hgrow
        have := own_empty (T := 2) (w3.alloc (.cells #[.slice (some ⟨g, 0, none⟩) L.length c2] 26))
        rw [size_alloc1] at this
        have := this.keep ((Below.refl _ _).alloc (Nat.le_refl _) (.cells #[.slice (some ⟨w3.heap.size + 1, 0, none⟩) 0 0] 34))
        rw [size_alloc1]
        exact this
      have hbw : Below w2.heap.size (w3.alloc (.cells #[.slice (some ⟨g, 0, none⟩) L.length c2] 26)) w5 := (hbA.mono hz4).grown hgrow (by rw [size_alloc1, size_alloc1]; omega) (fun j hj => (HR.out.lt j hj).1)
      have hob : w5.heap[w3.heap.size]? = some (.cells #[.slice (some ⟨g, 0, none⟩) L.length c2] 26 (0, 0)) := by
        have hlt3 : w3.heap.size < (w3.alloc (.cells #[.slice (some ⟨g, 0, none⟩) L.length c2] 26)).heap.size := by rw [size_alloc1]; omega
        rw [hgrow.block w3.heap.size (by rw [size_alloc1, size_alloc1]; omega) (fun e => HWK.out.ne (by simpa [Value.ownBlock] using e)), hbA.block _ hlt3]
        exact HWK.out.box
      rw [avA_start HG.out] at hog'
      obtain ⟨a5, c5, e5⟩ := hog'.grid.slice
      rw [adjL_len] at e5
      subst e5
      have T5 := HWK.out.two.keepB hbw hz2'
      have bt5 : BoxT 26 w5 w3.heap.size (.slice (some ⟨g, 0, none⟩) L.length c2) := hob
      have kb5 := bt5.box.1
      have kf5 := bt5.box.2
      have HW5 : Hid (Work w w.heap.size (.slice a0 L.length c0) w3.heap.size (L.length + 1) w2.heap.size (avA L []) (w5.setCell ⟨w3.heap.size, 0, none⟩ (.slice a5 (L.length + 1) c5))) :=
        ⟨T5.arg.setOther (by simp; omega) _, T5.res.setOther (by simp; omega) _, ⟨a5, c5, bt5.set _, hog'.setType bt5 (by decide) (by decide) 0 _⟩, T5.bel.setCell (by simp; omega) _⟩
      clear hown' hgrow hbA hog' hbw hob T5 bt5 k6
      go_wp2_with fail
      generalize (w5.setCell ⟨w3.heap.size, 0, none⟩ (.slice a5 (L.length + 1) c5)) = w6 at HW5 ⊢
      go_loopw [7] (fun i wr => ∃ k : Nat, k ≤ xs.length ∧ i = .int .i64 k ∧ Work w w.heap.size (.slice a0 L.length c0) w3.heap.size (L.length + 1) w2.heap.size (avA L (xs.take k)) wr) (fun i _ => xs.length - (intOf i).toNat)
      case atStart => exact ⟨0, Nat.zero_le _, rfl, HW5.out⟩
      case round =>
        obtain ⟨k, hk, rfl, hw⟩ := hrel
        have HW := Lib.hid hw
        have kb := hw.arg.1
        by_cases hlt : k < xs.length
        · obtain ⟨bx, ox, cx, e2, l1, l2, hc⟩ := (HRK.out _ hw.bel).pos (by omega)
          simp only [Value.slice.injEq, true_and] at e2
          obtain ⟨rfl, rfl⟩ := e2
          have hck := hc k hlt
          have hxk := HS.out k hlt
          obtain ⟨y, hy⟩ : ∃ y : Nat, nth xs k = (y : Int) := ⟨(nth xs k).toNat, by have := hxk.1; omega⟩
          have hyn : y < L.length := by have := hxk.2.1; omega
          rw [hy] at hck
          have HTK : Hid (xs.take (k + 1) = xs.take k ++ [(y : Int)]) := by show _ = _; rw [take_snoc hlt, hy]
          obtain ⟨ag, cg, hbt, hog⟩ := hw.out
          obtain ⟨g7, cap, eg, hBg, hgs, _⟩ := hog.place (by rw [adjL_len]; omega)
          simp only [adjL_len, Value.slice.injEq, true_and] at eg
          obtain ⟨rfl, rfl⟩ := eg
          have hgne : w3.heap.size ≠ g7 := by
            obtain ⟨cur, hcur⟩ := hog.blkT
            intro e
            rw [← e] at hcur
            have hbb : wr.heap[w3.heap.size]? = _ := hbt
            rw [hcur] at hbb
            simp at hbb
          have kg := hbt.box.1
          have HBT := Lib.hid hbt
          have HOG := Lib.hid hog
          clear hw hc hxk hy hbt hog
          go_wp2_with fail
          go_region_law (first
            | (go_simp; go_at_call 72; refine (l1Size_any _ L _ (HGK.out _ HW.out.bel.drew)).mono ?_; rintro e wa ⟨rfl, hba⟩; have HBA : Hid (Below wr.heap.size wr wa) := (Below.refl _ _).drew.trans hba; have kga := cell_keep HBA.out kg; have hcka := cell_keep HBA.out hck; have kba := cell_keep HBA.out kb; have HWA := Lib.hid (HW.out.keep HBA.out); have HBTA := Lib.hid (HBT.out.keep HBA.out); have HOGA := Lib.hid (HOG.out.keep HBA.out); clear hba)
            | (go_simp; go_at_call 103; refine (l1Link_adj y L.length g7 cg w2.heap.size (L.length + 1) _ _ HOGA.out (by have := HBTA.out.lt; omega) (by omega) (by omega) (by omega) (by omega)).mono ?_; rintro e wb ⟨rfl, hob, hbb, htb⟩; have btb : BoxT 26 wb w3.heap.size (.slice (some ⟨g7, 0, none⟩) (L.length + 1) cg) := (by unfold BoxT; rw [htb _ HBTA.out.lt hgne]; exact HBTA.out); have kbb := btb.box.1; have kfb := btb.box.2; have HWB : Hid (Work w w.heap.size (.slice a0 L.length c0) w3.heap.size (L.length + 1) w2.heap.size (avA L (xs.take (k + 1))) (wb.setCell ⟨w3.heap.size, 0, none⟩ (.slice (some ⟨g7, 0, none⟩) (L.length + 1) cg))) := ⟨(HWA.out.arg.keepB hbb (by omega)).setOther (by simp; omega) _, (HWA.out.res.keepB hbb (by omega)).setOther (by simp; omega) _, ⟨_, cg, btb.set _, by rw [HTK.out, adjL_congr (fun i _ j _ => avA_link L _ i j)]; exact hob.setType btb (by decide) (by decide) 0 _⟩, (HWA.out.bel.trans (hbb.mono (by omega))).setCell (by simp; omega) _⟩; clear hob hbb htb btb))
          all_goals (
            clear kg hck kb kga hcka kba kbb kfb
            go_wp2
            go_roundw
            case rel => exact ⟨k + 1, by omega, by go_num, HWB.out⟩
            case measure => simp [intOf]; omega)
        · obtain rfl : k = xs.length := by omega
          obtain ⟨ag, cg, hbt, hog⟩ := hw.out
          rw [List.take_length] at hog
          have kg := hbt.box.1
          have kr := hw.res.1
          have kf := hw.res.2
          have T7 : Hid (Two w (.slice a0 L.length c0) wr) := ⟨hw.arg, hw.res, hw.bel⟩
          have HOG := Lib.hid hog
          clear hbt hog hw kb
          go_wp2
          refine bodyPost_ret (v := .tuple #[.agg #[.slice ag (L.length + 1) cg], .bool true]) (by simp [results, Try.results53, go_sem, T7.out.q0]) rfl (T7.out.yes (B := w2.heap.size) ?_ hz2' HI.out)
          rw [avL, if_pos HI.out]
          exact HOG.out
  · have hS' : setB L xs = false := by simpa using hS
    have HI : Hid (avB L xs = false) := by show avB L xs = false; unfold avB; rw [hS', Bool.false_and]
    have kr := T1.out.res.1
    have kf := T1.out.res.2
    rw [hS']
    clear hS hS'
    go_wp2
    exact bodyPost_ret (v := .tuple #[.agg #[.slice none 0 0], .bool false]) (by simp [results, Try.results53, go_sem, T1.out.q0]) rfl (T1.out.no (avL_no HI.out) HI.out)

end Go.Proofs.Ytikfbfclbmlopaa

/- Walks: a vertex added: the program's. -/
namespace Go.Proofs.Ytikfbfclbmlopaa
open Go.RowKit

/-- A row laid, its box laid, the copy grown by it, put back: the copy has one row more. -/
theorem WorkL.grow {w0 w w2 w7 : World} {v : Value} {bo B g n cg g7 cap7 : Nat} {L : List (List Int)} {xs : List Int} {rv : Value} {R : Nat → Value} (h : WorkL w0 v bo B g n cg L w) (hbo2 : w0.heap.size + 1 < bo) (hn : L.length = n) (hl : n ≤ 1000) (hb : Below w.heap.size w w2) (hr : OwnRow 2 w2 w.heap.size rv xs)
    (hR : w.ownsRow B 34 1 (.slice (some ⟨g, 0, none⟩) n cg) n ((List.range n).map R)) (hRr : ∀ i, i < n → OwnRow 2 w B (R i) (nthR L i)) (hRd : ∀ i j q, i < j → j < n → (R i).ownBlock = some q → (R j).ownBlock ≠ some q)
    (hown : w7.ownsRow B 34 1 (.slice (some ⟨g7, 0, none⟩) (n + 1) cap7) (n + 1) ((List.range n).map R ++ [rv])) (hgrow : (w2.alloc (.cells #[rv] 34)).grownBy w7 (Value.slice (some ⟨g, 0, none⟩) n cg).ownBlock) :
    BoxT 26 w7 bo (.slice (some ⟨g, 0, none⟩) n cg) ∧ WorkL w0 v bo B g7 (n + 1) cap7 (L ++ [xs]) (w7.setCell ⟨bo, 0, none⟩ (.slice (some ⟨g7, 0, none⟩) (n + 1) cap7)) := by
  subst hn
  have hBs : B ≤ w.heap.size := by
    rcases hR.2 with ⟨e, _⟩ | ⟨g', cap', cur', e, hg, hh, _⟩
    · cases e
    · obtain ⟨hlt, _⟩ := Array.getElem?_eq_some_iff.1 hh
      omega
  have hlow := h.low
  have hW : Below w.heap.size w (w2.alloc (.cells #[rv] 34)) := hb.alloc hb.size _
  have hbw : Below B w w7 := (hW.mono hBs).grown hgrow (by rw [size_alloc1]; have := hb.size; omega) (fun j hj => (hR.lt j hj).1)
  have hog : OwnGrid 2 34 w7 B (.slice (some ⟨g7, 0, none⟩) (L.length + 1) cap7) (L ++ [xs]) := by
    refine OwnGrid.snoc (w0 := w) (w := w2.alloc (.cells #[rv] 34)) (rv := rv) (n := L.length) (v := .slice (some ⟨g, 0, none⟩) L.length cg) (by decide) hW hBs ?_ rfl (by unfold maxLen; omega) R hR hRr hRd hown hgrow
    exact hr.keep ((Below.refl _ _).alloc (Nat.le_refl _) _)
  have hbt : BoxT 26 w7 bo (.slice (some ⟨g, 0, none⟩) L.length cg) := by
    unfold BoxT
    have hlt := h.box.lt
    rw [hgrow.block bo (by rw [size_alloc1]; have := hb.size; omega) (fun e => h.ne (by simpa [Value.ownBlock] using e)), hW.block bo hlt]
    exact h.box
  have t7 := h.two.keepB hbw hlow
  exact ⟨hbt, ⟨t7.arg.setOther (by simp; omega) _, t7.res.setOther (by simp; omega) _, t7.bel.setCell (by simp; omega) _⟩, hbt.set _, hog.setType hbt (by decide) (by decide) 0 _, hlow⟩

/-- Who is near whom among the old vertices and the new one, when the rows of ys have it. -/
def avP (L : List (List Int)) (ys : List Int) (i j : Nat) : Bool := adjB L i j || (j == L.length && hasB ys (i : Int))
theorem avP_start {L : List (List Int)} (hG : GraphP L) : L = adjL L.length (avP L []) := by
  have h := graph_adjL hG
  rw [← adjL_congr (A := avP L []) (A' := adjB L) (fun i _ j _ => by unfold avP; rw [hasB_nil]; simp)] at h
  exact h.symm
theorem avP_set {L : List (List Int)} (hG : GraphP L) (hn : L.length < 16) {y : Nat} (ys : List Int) (hy : y < L.length) : (adjL L.length (avP L ys)).set y (listM (rowM L y ||| 2 ^ L.length)) = adjL L.length (avP L (ys ++ [(y : Int)])) := by
  apply nthR_ext
  · simp [adjL_len]
  · intro i hi
    rw [List.length_set, adjL_len] at hi
    rw [adjL_nth _ hi]
    by_cases e : y = i
    · subst e
      unfold nthR
      rw [List.getD_eq_getElem?_getD, List.getElem?_set_self (by rw [adjL_len]; exact hi)]
      show listM _ = listM _
      congr 1
      apply Nat.eq_of_testBit_eq
      intro j
      rw [Nat.testBit_or, rowM_pm hG, pm_bit, pm_bit, Nat.testBit_two_pow]
      unfold avP
      rw [hasB_snoc]
      have e1 : ((y : Int) == (y : Int)) = true := by simp
      have e2 : (j == L.length) = decide (L.length = j) := by by_cases h : L.length = j <;> simp [h]; omega
      rw [e1, e2, Bool.or_true, Bool.and_true]
      by_cases hj : j < 16
      · simp [hj]
      · simp [hj, show ¬ L.length = j from by omega]
    · rw [nthR_set_ne _ e, adjL_nth _ hi]
      congr 1
      refine pm_congr (fun j _ => ?_)
      unfold avP
      rw [hasB_snoc]
      have : ((i : Int) == (y : Int)) = false := by rw [beq_eq_false_iff_ne]; omega
      rw [this, Bool.or_false]
theorem avP_end {L : List (List Int)} {xs : List Int} (hG : GraphP L) (hs : SetP xs L.length) (hn : L.length < 16) : adjL L.length (avP L xs) ++ [xs] = adjL (L.length + 1) (avA L xs) := by
  apply nthR_ext
  · simp [adjL_len]
  · intro i hi
    rw [List.length_append, List.length_singleton, adjL_len] at hi
    rw [adjL_nth _ hi]
    by_cases h : i < L.length
    · rw [nthR_append_old (by rw [adjL_len]; exact h), adjL_nth _ h]
      congr 1
      refine pm_congr (fun j _ => ?_)
      unfold avP avA
      have : (i == L.length) = false := by rw [beq_eq_false_iff_ne]; omega
      rw [this]; simp
    · obtain rfl : i = L.length := by omega
      have e := nthR_append_last (adjL L.length (avP L xs)) xs
      rw [adjL_len] at e
      rw [e]
      refine sets_eq (SetP.mk hs.pairwise (fun x hx => by have := hs.bounds x hx; omega)) (listM_set _) (fun z => ?_)
      rw [listM_mem]
      have hadj : ∀ j, adjB L L.length j = false := fun j => by
        cases hb : adjB L L.length j with
        | false => rfl
        | true => exact absurd (adjB_range hG hb).1 (by omega)
      have hself : hasB xs (L.length : Int) = false := by
        cases hb : hasB xs (L.length : Int) with
        | false => rfl
        | true =>
          have := hs.bounds _ ((hasB_mem _ _).1 hb)
          omega
      constructor
      · intro hz
        have hb := hs.bounds z hz
        obtain ⟨j, rfl⟩ : ∃ j : Nat, z = (j : Int) := ⟨z.toNat, by omega⟩
        refine ⟨j, by omega, ?_, rfl⟩
        rw [pm_bit]
        unfold avA
        rw [(hasB_mem xs (j : Int)).2 hz]
        simp; omega
      · rintro ⟨j, hj, hb, rfl⟩
        rw [pm_bit, Bool.and_eq_true] at hb
        have hb2 := hb.2
        unfold avA at hb2
        rw [hadj, hself] at hb2
        simp at hb2
        exact (hasB_mem _ _).1 hb2

set_option maxHeartbeats 6400000 in
set_option maxRecDepth 100000 in
theorem implAddedVertex_any (v v1 : Value) (L : List (List Int)) (xs : List Int) (w : World) (h : GridAt w v L) (h1 : RowAt w v1 xs) : Calls Try.prog 43 #[.agg #[v], v1] w (GaveGB w (avL L xs) (avB L xs)) := by
  obtain ⟨i0, hi, hz0, hz1, hz2⟩ := info_parts Try.infoR
  have hl := h.len
  unfold maxLen at hl
  obtain ⟨a0, c0, rfl⟩ := h.slice
  obtain ⟨a1, c1, rfl⟩ := h1.slice
  have hlm := h1.len
  unfold maxLen at hlm
  have T0 := Lib.hid (Two.start w (.slice a0 L.length c0))
  have HGK : Hid (∀ w', Below w.heap.size w w' → GridAt w' (.slice a0 L.length c0) L) := fun w' hb => h.keep hb
  have HRK : Hid (∀ w', Below w.heap.size w w' → RowAt w' (.slice a1 xs.length c1) xs) := fun w' hb => h1.keep hb
  clear h h1
  by_cases h16 : 16 ≤ L.length
  · have HI : Hid (avB L xs = false) := by
      show avB L xs = false
      cases hb : avB L xs with
      | false => rfl
      | true => exact absurd (avB_yes hb).2.2.1 (by omega)
    have hd : decide ((16 : Int) ≤ (L.length : Int)) = true := by simp; omega
    have kr := T0.out.res.1
    have kf := T0.out.res.2
    clear h16
    go_enter Try.func43, Try.ntmps43
    go_wp2
    refine bodyPost_ret (v := .tuple #[.agg #[.slice none 0 0], .bool false]) (by simp [results, Try.results43, go_sem]) rfl ?_
    rw [avL_no HI.out, HI.out]
    exact GaveGB.no T0.out.bel
  · have hd : decide ((16 : Int) ≤ (L.length : Int)) = false := by simp; omega
    have h16I : (L.length : Int) < 16 := by omega
    go_enter Try.func43, Try.ntmps43
    go_wp2_with fail
    refine (implSetOk_any _ _ _ _ _ (HGK.out _ T0.out.bel) (HRK.out _ T0.out.bel)).mono ?_
    rintro e w1 ⟨rfl, hb1⟩
    have T1 := Lib.hid (T0.out.keep hb1)
    clear hb1 T0
    by_cases hS : setB L xs = true
    · have HI : Hid (avB L xs = true) := by show avB L xs = true; unfold avB; rw [hS, (by rw [beq_eq_false_iff_ne]; omega : ((L.length : Int) == 16) = false)]; rfl
      obtain ⟨hG, hs, hlt16, hx16⟩ := avB_yes HI.out
      have HG := Lib.hid hG
      have HS := Lib.hid hs
      have hz := hG.1
      have kb1 := T1.out.arg.1
      rw [hS]
      clear hS h16 hG hs
      go_wp2_with fail
      refine (copied_any _ L _ (HGK.out _ T1.out.bel) (graph_small HG.out)).mono ?_
      rintro e w2 ⟨n2, a2, c2, rfl, ho2, hb2⟩
      obtain ⟨rfl, g, rfl, hwk⟩ := WorkL.start T1.out hb2 ho2 (by omega)
      obtain ⟨bg, og, cg, A, C, eg, lg1, lg2, hcg⟩ := (HGK.out _ (Below.refl _ _)).pos (by omega)
      simp only [Value.slice.injEq, true_and] at eg
      obtain ⟨rfl, rfl⟩ := eg
      have hbgl : bg < w.heap.size := block_lt_of_cell (hcg 0 (by omega)).1
      have HKC : Hid (∀ i, i < L.length → ∀ w', Below w.heap.size w w' → w'.cell? ⟨bg, og + i, none⟩ = some (.slice (A i) (nthR L i).length (C i)) ∧ RowAt w' (.slice (A i) (nthR L i).length (C i)) (listM (rowM L i))) := fun i hi w' hb => ⟨cell_keep hb (hcg i hi).1, by rw [row_list HG.out hi]; exact (hcg i hi).2.keep hb⟩
      have hbo : w.heap.size + 1 < w2.heap.size := Nat.lt_of_lt_of_le T1.out.lt hb2.size
      have HWK0 : Hid (WorkL w (.slice (some ⟨bg, og, none⟩) L.length c0) w2.heap.size w1.heap.size g L.length c2 (adjL L.length (avP L (xs.take 0))) (w2.alloc (.cells #[.slice (some ⟨g, 0, none⟩) L.length c2] 26))) := by
        rw [List.take_zero, ← avP_start HG.out]; exact hwk
      have HADJ : Hid (∀ i, (rowM L i).testBit L.length = false) := fun i => by
        show adjB L i L.length = false
        cases hb : adjB L i L.length with
        | false => rfl
        | true => exact absurd (adjB_range HG.out hb).2 (by omega)
      clear hb2 ho2 kb1 hcg hwk
      go_wp2_with fail
      generalize hw3 : (w2.alloc (.cells #[.slice (some ⟨g, 0, none⟩) L.length c2] 26)) = w3 at HWK0 ⊢
      clear hw3
      go_loopw [26] (fun i wr => ∃ k : Nat, k ≤ xs.length ∧ i = .int .i64 k ∧ WorkL w (.slice (some ⟨bg, og, none⟩) L.length c0) w2.heap.size w1.heap.size g L.length c2 (adjL L.length (avP L (xs.take k))) wr) (fun i _ => xs.length - (intOf i).toNat)
      case atStart => exact ⟨0, Nat.zero_le _, rfl, HWK0.out⟩
      case round =>
        obtain ⟨k, hk, rfl, hw⟩ := hrel
        have HWK := Lib.hid hw
        have k8 := HWK.out.box.box.1
        have k3 := HWK.out.two.arg.1
        have hlow := HWK.out.low
        have hne8 := HWK.out.ne
        by_cases hlt : k < xs.length
        · obtain ⟨bx, ox, cx, e2, l1, l2, hc⟩ := (HRK.out _ hw.two.bel).pos (by omega)
          simp only [Value.slice.injEq, true_and] at e2
          obtain ⟨rfl, rfl⟩ := e2
          have hck := hc k hlt
          have hxk := HS.out k hlt
          obtain ⟨p, hy⟩ : ∃ y : Nat, nth xs k = (y : Int) := ⟨(nth xs k).toNat, by have := hxk.1; omega⟩
          have hp : p < L.length := by have := hxk.2.1; omega
          have hpI : (p : Int) < (L.length : Int) := by omega
          rw [hy] at hck
          have HTK : Hid (xs.take (k + 1) = xs.take k ++ [(p : Int)]) := by show _ = _; rw [take_snoc hlt, hy]
          have kg := (HKC.out p hp _ HWK.out.two.bel).1
          have hp' : p < (adjL L.length (avP L (xs.take k))).length := by rw [adjL_len]; exact hp
          obtain ⟨hBg, hgs, ap, mp, cp, kp, fp, -⟩ := HWK.out.at (i := p) hp'
          have HKP := Lib.hid kp
          have HFP := Lib.hid fp
          clear kp fp hw hc hxk hy
          go_wp2_with fail
          go_region_held3 (fun wx => wx.cell? ⟨w2.heap.size, 0, none⟩ = some (.slice (some ⟨g, 0, none⟩) L.length c2) ∧ wx.cell? ⟨w.heap.size, 0, none⟩ = some (.slice (some ⟨bg, og, none⟩) L.length c0) ∧ wx.cell? ⟨bg, og + p, none⟩ = some (.slice (A p) (nthR L p).length (C p))) (first | exact ⟨k8, k3, kg⟩ | exact ⟨k8a, k3a, kga⟩ | exact ⟨cell_set_blk _ (fun e => hne8 e.symm) k8a, cell_set_blk _ (fun e => by simp at e; omega) k3a, cell_set_blk _ (fun e => by simp at e; omega) kga⟩)
            ((go_at_call 93; refine (rowWith_mask _ (rowM L p) L.length _ ((HKC.out p hp _ HWK.out.two.bel).2.keep (Below.refl _ _).drew) hlt16 (HADJ.out p)).mono ?_; rintro e w5 ⟨n5, a5, c5, rfl, ho5, hb5⟩; have HB5 : Hid (Below wr.heap.size wr w5) := (Below.refl _ _).drew.trans hb5; have k8a := cell_keep HB5.out k8; have k3a := cell_keep HB5.out k3; have kga := cell_keep HB5.out kg; have kpa := cell_keep HB5.out HKP.out; have fpa : w5.frozen? ⟨g, p, none⟩ = false := (by rw [HB5.out.frozen hgs]; exact HFP.out); have HO5 : Hid (OwnRow 2 w5 wr.heap.size (.slice a5 n5 c5) (listM (rowM L p ||| 2 ^ L.length))) := ho5; clear ho5 hb5))
          have hw6 := HWK.out.set HB5.out HO5.out hp'
          rw [avP_set HG.out hlt16 _ hp, ← HTK.out] at hw6
          have HW6 := Lib.hid hw6
          clear kpa fpa k8a k3a kga k8 k3 kg HKP HFP HO5 HB5 HWK hne8 hBg hgs hw6
          rename_i hHeld
          clear hHeld
          go_wp2
          go_roundw
          case rel => exact ⟨k + 1, by omega, by go_num, HW6.out⟩
          case measure => simp [intOf]; omega
        · obtain rfl : k = xs.length := by omega
          have hw2 := hw
          rw [List.take_length] at hw2
          have HWF := Lib.hid hw2
          obtain ⟨R, hR, hRr, hRd⟩ := hw2.own.owns
          rw [adjL_len] at hR hRr hRd
          have HR := Lib.hid hR
          have HRr := Lib.hid hRr
          have HRd := Lib.hid hRd
          have HXR := Lib.hid (HRK.out _ hw.two.bel)
          have hBs : w1.heap.size ≤ wr.heap.size := by
            obtain ⟨hb1, hb2, _⟩ := hw2.at (i := 0) (by rw [adjL_len]; omega)
            omega
          have ft := HWF.out.box.box.2
          have HC3 : Hid (L.length + 1 ≤ maxLen) := by show _ ≤ _; unfold maxLen; omega
          have HC4 : Hid ((L.length + 1) * 24 ≤ 140737488355328) := by show _ ≤ _; omega
          clear hw hw2 hR hRr hRd k3
          go_wp2_with fail
          go_region_law (first
            | (go_simp; go_at_call 99; refine (copiedRow_any _ xs _ (HXR.out.keep (Below.refl _ _).drew) (by omega)).mono ?_; rintro e wa ⟨na, aa, ca, rfl, hoa, hba⟩; have HBA : Hid (Below wr.heap.size wr wa) := (Below.refl _ _).drew.trans hba; have HOA : Hid (OwnRow 2 wa wr.heap.size (.slice aa na ca) xs) := hoa; have k8a := cell_keep HBA.out k8; have k8b : (wa.alloc (.cells #[.slice aa na ca] 34)).cell? ⟨w2.heap.size, 0, none⟩ = some (.slice (some ⟨g, 0, none⟩) L.length c2) := cell_keep ((Below.refl _ _).alloc (Nat.le_refl _) _) k8a; have HOR2 : Hid (wa.ownsRow w1.heap.size 34 1 (.slice (some ⟨g, 0, none⟩) L.length c2) L.length ((List.range L.length).map R)) := (⟨HR.out.1, HR.out.2.imp (fun h => h) (fun ⟨g, cap, cur, e, hgB, hh, r⟩ => ⟨g, cap, cur, e, hgB, by rw [HBA.out.block g (Array.getElem?_eq_some_iff.1 hh).1]; exact hh, r⟩)⟩); have HZ2 : Hid (w1.heap.size ≤ (wa.alloc (.cells #[.slice aa na ca] 34)).heap.size) := (by show _ ≤ _; rw [size_alloc1]; have := HBA.out.size; omega); clear hoa hba)
            | (refine step_append_lies _ (by rfl) (.tmp 43) (.tmp 46) 24 (by rfl) w1.heap.size 34 i0 (.slice none 0 0) 1 24 Try.underlying24 hi hz0 hz1 hz2 rfl (by omega) (.slice (some ⟨g, 0, none⟩) L.length c2) L.length ((List.range L.length).map R) (by rfl) (HOR2.out.alloc _) ⟨wa.heap.size, 0, none⟩ 1 1 [.slice aa na ca] (by rfl) rfl (World.news_of_block (heap_alloc_new _ _)) (fun u hu => by simp at hu; subst hu; rfl) Nat.one_pos HC3.out HC4.out HZ2.out (wa.heap.size + 1) (size_alloc1 _ _) ?_; intro g7 cap7 w7 hown7 hgrow7 hat7 hlt7; obtain ⟨hbx7, hw7⟩ := HWF.out.grow hbo (adjL_len _ _) (by omega) HBA.out HOA.out HR.out HRr.out HRd.out hown7 hgrow7; have k87 := hbx7.box.1; have f87 := hbx7.box.2; have HW7 := Lib.hid hw7; clear hown7 hgrow7 hat7 hlt7 hbx7 hw7))
          all_goals (
            clear k87 f87 k8a k8b k8 ft
            generalize (w7.setCell ⟨w2.heap.size, 0, none⟩ (.slice (some ⟨g7, 0, none⟩) (L.length + 1) cap7)) = w8 at HW7 ⊢
            have k8 := HW7.out.box.box.1
            have kr := HW7.out.two.res.1
            have kf := HW7.out.two.res.2
            have HEL : Hid (avL L xs = adjL L.length (avP L xs) ++ [xs]) := by show _ = _; rw [avL, if_pos HI.out, avP_end HG.out HS.out hlt16]
            go_wp2
            refine bodyPost_ret (v := .tuple #[.agg #[.slice (some ⟨g7, 0, none⟩) (L.length + 1) cap7], .bool true]) (by simp [results, Try.results43, go_sem, HW7.out.two.q0]) rfl ?_
            rw [HEL.out]
            exact HW7.out.done HI.out)
    · have hS' : setB L xs = false := by simpa using hS
      have HI : Hid (avB L xs = false) := by show avB L xs = false; unfold avB; rw [hS', Bool.false_and]
      have kr := T1.out.res.1
      have kf := T1.out.res.2
      rw [hS']
      clear hS hS'
      go_wp2
      exact bodyPost_ret (v := .tuple #[.agg #[.slice none 0 0], .bool false]) (by simp [results, Try.results43, go_sem, T1.out.q0]) rfl (T1.out.no (avL_no HI.out) HI.out)

end Go.Proofs.Ytikfbfclbmlopaa
