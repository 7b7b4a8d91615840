/- Walks: SimplicialIn. -/
import Derived.Test.YtmfolclpddoplaaCQ1
import Derived.BigQuiet

namespace Go.Proofs.Ytmfolclpddoplaa
open Go.RowKit

/-- Those of the first n that satisfy p. -/
def simTo (p : Nat → Bool) : Nat → List Int
  | 0 => []
  | k + 1 => if p k = true then simTo p k ++ [(k : Int)] else simTo p k
theorem simTo_len (p : Nat → Bool) (k : Nat) : (simTo p k).length ≤ k := by
  induction k with
  | zero => exact Nat.le_refl _
  | succ k ih =>
    rw [simTo]
    split
    · rw [List.length_append, List.length_singleton]; omega
    · omega
/-- Are all neighbours of v near each other? -/
def simB (A : Nat → Nat → Bool) (v : Nat) : Bool := missN A (listM (pm (A v))) == 0
/-- What SimplicialIn answers. -/
def simpL (L : List (List Int)) : List Int := if GraphP L then simTo (simB (adjB L)) L.length else []
theorem simpL_small (L : List (List Int)) : (simpL L).length ≤ 16 := by
  unfold simpL
  split
  · rename_i h
    have := simTo_len (simB (adjB L)) L.length
    have := h.1.2
    omega
  · simp

set_option maxHeartbeats 4000000 in
set_option maxRecDepth 100000 in
theorem specSimplicialIn_any (v : Value) (L : List (List Int)) (w : World) (h : GridAt w v L) : Calls Try.prog 49 #[.agg #[v]] w (GaveRow w (simpL L)) := by
  obtain ⟨i0, hi, hz0, hz1, hz2⟩ := info_parts Try.infoI
  obtain ⟨a0, c0, rfl⟩ := h.slice
  have HGK : Hid (∀ W, Below w.heap.size w W → GridAt W (.slice a0 L.length c0) L) := fun W hb => h.keep hb
  obtain ⟨wA, hwA⟩ : ∃ wA, wA = w.alloc (.cells #[.slice a0 L.length c0] 29) := ⟨_, rfl⟩
  have HB0 : Hid (Below w.heap.size w wA) := by rw [hwA]; exact (Below.refl _ _).alloc (Nat.le_refl _) _
  have HX0 : Hid (BoxAt wA w.heap.size (.slice a0 L.length c0)) := by rw [hwA]; exact BoxAt.new _ _ _
  have HSZ : Hid (wA.heap.size = w.heap.size + 1) := by rw [hwA]; exact size_alloc1 _ _
  have HBW : Hid (∀ W, Below wA.heap.size wA W → Below w.heap.size w W) := fun W hb => HB0.out.trans (hb.mono HB0.out.size)
  have HKB : Hid (∀ W, Below wA.heap.size wA W → W.cell? ⟨w.heap.size, 0, none⟩ = some (.slice a0 L.length c0)) := fun W hb => (HX0.out.keep hb).1
  have HO0 : Hid (OwnRow 2 (wA.alloc (.cells #[] 2)) wA.heap.size (.slice (some ⟨wA.heap.size, 0, none⟩) 0 0) []) := own_none2 wA _ (Nat.le_refl _)
  have HW0 : Hid (Below wA.heap.size wA (wA.alloc (.cells #[] 2))) := (Below.refl _ _).alloc (Nat.le_refl _) _
  have hl : L.length ≤ maxLen := h.len
  unfold maxLen at hl
  clear h
  go_enter Try.func49, Try.ntmps49
  go_wp2_with fail
  rw [← hwA, ← HSZ.out]
  clear hwA
  by_cases hG : GraphP L
  · have hz := hG.1
    have HGP := Lib.hid hG
    have HF : Hid (simpL L = simTo (simB (adjB L)) L.length) := if_pos hG
    clear hG
    go_loopw [3, 4] (fun s i wr => ∃ k : Nat, k ≤ L.length ∧ i = .int .i64 k ∧ OwnRow 2 wr wA.heap.size s (simTo (simB (adjB L)) k) ∧ Below wA.heap.size wA wr ∧ wA.heap.size < wr.heap.size) (fun _ i _ => L.length - (intOf i).toNat)
    case atStart => exact ⟨0, Nat.zero_le _, rfl, HO0.out, HW0.out, by simp⟩
    case round =>
      obtain ⟨k, hk, rfl, ho, hb, hzr⟩ := hrel
      have HNX : Hid (simTo (simB (adjB L)) (k + 1) = if simB (adjB L) k = true then simTo (simB (adjB L)) k ++ [(k : Int)] else simTo (simB (adjB L)) k) := rfl
      have hyl := simTo_len (simB (adjB L)) k
      obtain ⟨ys, hys⟩ : ∃ ys, ys = simTo (simB (adjB L)) k := ⟨_, rfl⟩
      rw [← hys] at HNX hyl ho
      have HYS := Lib.hid hys
      obtain ⟨a5, c5, e5⟩ := ho.row.slice
      subst e5
      obtain ⟨m, hm⟩ : ∃ m, m = ys.length := ⟨_, rfl⟩
      rw [← hm] at ho hyl ⊢
      have HM := Lib.hid hm
      have HO := Lib.hid ho
      have HB := Lib.hid hb
      have kb := HKB.out _ hb
      clear hm hys ho hb
      go_wp2_with fail
      refine (l1Size_any _ L _ (HGK.out _ (HBW.out _ HB.out))).mono ?_
      rintro e w2 ⟨rfl, hb2⟩
      have HB2 : Hid (Below wA.heap.size wA w2) := HB.out.trans (hb2.mono HB.out.size)
      have HO2 := Lib.hid (HO.out.keep hb2)
      have hz2' : wA.heap.size < w2.heap.size := Nat.lt_of_lt_of_le hzr hb2.size
      have HZ2 := Lib.hid hz2'
      have kb2 := HKB.out _ HB2.out
      clear hb2 kb hzr HO HB hz2'
      by_cases hlt : k < L.length
      · have hltI : (k : Int) < (L.length : Int) := by omega
        go_wp2_with fail
        refine (specGraphOk_any _ L _ (HGK.out _ (HBW.out _ HB2.out))).mono ?_
        rintro e w3 ⟨rfl, hb3⟩
        rw [decide_eq_true HGP.out]
        have HB3 : Hid (Below wA.heap.size wA w3) := HB2.out.trans (hb3.mono HB2.out.size)
        have HO3 := Lib.hid (HO2.out.keep hb3)
        have HZ3 : Hid (wA.heap.size < w3.heap.size) := Nat.lt_of_lt_of_le HZ2.out hb3.size
        have kb3 := HKB.out _ HB3.out
        clear hb3 kb2 HO2 HZ2
        obtain ⟨bg, og, cg, A6, C6, eg, lg1, lg2, hcg⟩ := (HGK.out _ (HBW.out _ HB3.out)).pos (by omega)
        simp only [Value.slice.injEq] at eg
        obtain ⟨rfl, _, rfl⟩ := eg
        obtain ⟨kc, hr6⟩ := hcg k hlt
        obtain ⟨v6, hv6⟩ : ∃ v6, v6 = Value.slice (A6 k) (nthR L k).length (C6 k) := ⟨_, rfl⟩
        rw [← hv6] at kc hr6
        clear hv6
        have HLE : Hid (nthR L k = listM (pm (adjB L k))) := by
          have h := adjL_nth (n := L.length) (adjB L) hlt
          rw [graph_adjL HGP.out] at h; exact h
        have HSR : Hid (∀ u, adjB L k u = true → u < L.length) := fun u hu => (adjB_range HGP.out hu).2
        have HR6 : Hid (RowAt w3 v6 (listM (pm (adjB L k)))) := by rw [← HLE.out]; exact hr6
        have hcall : Hid (∀ z : Later w3, Calls Try.prog 85 #[.agg #[.slice (some ⟨bg, og, none⟩) L.length c0], v6] z.at fun e w5 => e = .returned (.bool (simB (adjB L) k)) ∧ ∃ t : Later w3, w5 = t.at) :=
          fun z => Calls.later (l8Clique_any _ _ L _ (adjB L) _ (HGK.out _ (HBW.out _ (HB3.out.trans (z.bel.mono HB3.out.size)))) (HR6.out.keep z.bel) (listM_len _) (left_vtx HSR.out) (left_adj HGP.out HSR.out))
        obtain ⟨t, ht⟩ : ∃ t, t = simB (adjB L) k := ⟨_, rfl⟩
        rw [← ht] at hcall HNX
        have kl := fun z : Later w3 => z.cell kb3
        have kl1 := fun z : Later w3 => z.cell kc
        clear hcg hr6 ht kb3 kc
        go_wp2_with fail
        refine wp_region_later (by kernel_rfl) (by kernel_rfl) ?_
        repeat (go_big_quiet_step ((go_at_call 85; exact hcall.out _)))
        refine wpQuiet_nil ?_
        rintro _ ⟨z, rfl⟩
        have HZB := Lib.hid z.bel
        generalize z.at = w4 at HZB ⊢
        have HB4 : Hid (Below wA.heap.size wA w4) := HB3.out.trans (HZB.out.mono HB3.out.size)
        have HO4 := Lib.hid (HO3.out.keep HZB.out)
        have HZ4 : Hid (wA.heap.size < w4.heap.size) := Nat.lt_of_lt_of_le HZ3.out HZB.out.size
        clear kl kl1 hcall HO3 HZ3 HB3
        cases t with
        | false =>
          go_wp2
          go_roundw
          case rel => exact ⟨k + 1, by omega, by go_num, by rw [HNX.out, if_neg (by simp)]; exact HO4.out, HB4.out, HZ4.out⟩
          case measure => simp [intOf]; omega
        | true =>
          have HWO : Hid (w4.ownsRow wA.heap.size 2 1 (.slice a5 m c5) m (ys.map (Value.int .i64))) := by
            have h := HO4.out.owns
            rw [← HM.out] at h
            exact h
          go_wp2_with (at_builtin; refine wpList_append_own _ rfl (.tmp 23) (.tmp 25) 31 rfl wA.heap.size 2 i0 (.int .i64 0) 1 8 Try.underlying31 hi hz0 hz1 hz2 rfl (by decide) _ _ _ rfl (HWO.out.alloc _) ⟨w4.heap.size, 0, none⟩ 1 1 [.int .i64 (k : Int)] rfl rfl ?d1 ?d2 ?d3 ?d4 ?d5 ?_)
          case d2 => rfl
          case d3 => unfold maxLen; omega
          case d4 => omega
          case d5 => have := HZ4.out; simp; omega
          intro v12 w12 hown12 hgrow12 _
          have hb12 : Below wA.heap.size w4 w12 := ((Below.refl _ _).alloc (Nat.le_of_lt HZ4.out) _).grown hgrow12 (by have := HZ4.out; simp; omega) (fun j hj => (HWO.out.lt j hj).1)
          have HEND : Hid (OwnRow 2 w12 wA.heap.size v12 (simTo (simB (adjB L)) (k + 1)) ∧ Below wA.heap.size wA w12 ∧ wA.heap.size < w12.heap.size) := by
            rw [HNX.out]
            simp only [if_true]
            refine ⟨?_, HB4.out.trans (hb12.mono (Nat.le_refl _)), Nat.lt_of_lt_of_le HZ4.out hb12.size⟩
            exact OwnRow.of_ownsRow (xs := ys ++ [(k : Int)]) (n := m + 1) (by simpa using hown12) (by rw [List.length_append, ← HM.out, List.length_singleton]; unfold maxLen; omega) (fun z hz => by
              rcases List.mem_append.1 hz with hz | hz
              · exact HO4.out.1 z hz
              · rw [List.mem_singleton] at hz; subst hz; unfold I64; omega)
          clear hown12 hgrow12 hb12
          go_wp2
          go_roundw
          case rel => exact ⟨k + 1, by omega, by go_num, HEND.out.1, HEND.out.2.1, HEND.out.2.2⟩
          case measure => simp [intOf]; omega
      · obtain rfl : k = L.length := by omega
        go_wp2
        go_ret
        exact ⟨_, _, _, rfl, by rw [HF.out, ← HYS.out]; exact HO2.out.mono HB0.out.size, HBW.out _ HB2.out⟩
  · have HF : Hid (simpL L = []) := if_neg hG
    have HGP := Lib.hid hG
    clear hG
    go_loopw [3, 4] (fun s i wr => i = .int .i64 0 ∧ s = .slice (some ⟨wA.heap.size, 0, none⟩) 0 0 ∧ wr = wA.alloc (.cells #[] 2)) (fun _ i _ => 0)
    case atStart => exact ⟨rfl, rfl, rfl⟩
    case round =>
      obtain ⟨rfl, rfl, rfl⟩ := hrel
      have kb := HKB.out _ HW0.out
      go_wp2_with fail
      refine (l1Size_any _ L _ (HGK.out _ (HBW.out _ HW0.out))).mono ?_
      rintro e w2 ⟨rfl, hb2⟩
      have HB2 : Hid (Below wA.heap.size wA w2) := HW0.out.trans (hb2.mono HW0.out.size)
      have HO2 := Lib.hid (HO0.out.keep hb2)
      have kb2 := HKB.out _ HB2.out
      clear hb2 kb
      by_cases hlt : 0 < L.length
      · have hltI : (0 : Int) < (L.length : Int) := by omega
        go_wp2_with fail
        refine (specGraphOk_any _ L _ (HGK.out _ (HBW.out _ HB2.out))).mono ?_
        rintro e w3 ⟨rfl, hb3⟩
        rw [decide_eq_false HGP.out]
        have HB3 : Hid (Below wA.heap.size wA w3) := HB2.out.trans (hb3.mono HB2.out.size)
        have HO3 := Lib.hid (HO2.out.keep hb3)
        clear hb3 kb2
        go_wp2
        go_ret
        exact ⟨_, _, _, rfl, by rw [HF.out]; exact HO3.out.mono HB0.out.size, HBW.out _ HB3.out⟩
      · have hltI : ¬ (0 : Int) < (L.length : Int) := by omega
        clear kb2
        go_wp2
        go_ret
        exact ⟨_, _, _, rfl, by rw [HF.out]; exact HO2.out.mono HB0.out.size, HBW.out _ HB2.out⟩

set_option maxHeartbeats 4000000 in
set_option maxRecDepth 100000 in
theorem implSimplicialIn_any (v : Value) (L : List (List Int)) (w : World) (h : GridAt w v L) : Calls Try.prog 50 #[.agg #[v]] w (GaveRow w (simpL L)) := by
  obtain ⟨i0, hi, hzi0, hzi1, hzi2⟩ := info_parts Try.infoI
  obtain ⟨a0, c0, rfl⟩ := h.slice
  have ha : Below w.heap.size w (w.alloc (.cells #[.slice a0 L.length c0] 29)) := (Below.refl _ _).alloc (Nat.le_refl _) _
  have hk := h.keep ha
  have HA := Lib.hid ha
  clear ha h
  go_enter Try.func50, Try.ntmps50
  go_wp2_with fail
  refine (netOf_any _ _ _ hk).mono ?_
  rintro e w1 ⟨rfl, hb1⟩
  have HB1 : Hid (Below w.heap.size w w1) := HA.out.trans (hb1.mono (by simp))
  have hz : w.heap.size ≤ w1.heap.size := HB1.out.size
  have hnb := netBlk_new w1 0 (fun _ => 0)
  clear hb1 hk HA
  by_cases hG : GraphP L
  · have hz1 := hG.1
    have HREL := Lib.hid (adjB_rel hG)
    have HRM : Hid (∀ i, i < 16 → rowM L i = pm (adjB L i)) := fun i _ => by rw [rowM_pm hG]
    have HF : Hid (simpL L = simTo (simB (adjB L)) L.length) := if_pos hG
    rw [decide_eq_true hG, netArr_yes hG]
    clear hG
    go_wp2_with (refine wpList_store_net rfl 65 (.tmp 3) (.tmp 10) rfl w1.heap.size L.length (rowM L) rfl rfl Try.sizeNet 0 (fun _ => 0) hnb ?_; intro w3 hp; have HN3 := Lib.hid (hp.net.congr rfl HRM.out); have HB3 : Hid (Below w.heap.size w w3) := (HB1.out.alloc hz _).trans (hp.below.mono hz); have hn0 := ((hp.net.congr rfl HRM.out).keep ((Below.refl _ _).alloc (Nat.le_refl _) (.cells #[] 2))).at.1; clear hp)
    have HN4 : Hid (NetBlk 65 (w3.alloc (.cells #[] 2)) w1.heap.size L.length (fun i => pm (adjB L i))) := HN3.out.keep ((Below.refl _ _).alloc (Nat.le_refl _) _)
    have HO4 : Hid (OwnRow 2 (w3.alloc (.cells #[] 2)) w3.heap.size (.slice (some ⟨w3.heap.size, 0, none⟩) 0 0) []) := own_none2 w3 _ (Nat.le_refl _)
    have HZ4 : Hid (Below w3.heap.size w3 (w3.alloc (.cells #[] 2))) := (Below.refl _ _).alloc (Nat.le_refl _) _
    clear hn0
    go_loopw [5, 17] (fun s i wr => ∃ k : Nat, k ≤ L.length ∧ i = .int .i64 k ∧ OwnRow 2 wr w3.heap.size s (simTo (simB (adjB L)) k) ∧ Below w3.heap.size w3 wr) (fun _ i _ => L.length - (intOf i).toNat)
    case atStart => exact ⟨0, Nat.zero_le _, rfl, HO4.out, HZ4.out⟩
    case round =>
      obtain ⟨k, hk, rfl, ho, hb⟩ := hrel
      have HNX : Hid (simTo (simB (adjB L)) (k + 1) = if simB (adjB L) k = true then simTo (simB (adjB L)) k ++ [(k : Int)] else simTo (simB (adjB L)) k) := rfl
      have hyl := simTo_len (simB (adjB L)) k
      obtain ⟨ys, hys⟩ : ∃ ys, ys = simTo (simB (adjB L)) k := ⟨_, rfl⟩
      rw [← hys] at HNX hyl ho
      have HYS := Lib.hid hys
      obtain ⟨a5, c5, e5⟩ := ho.row.slice
      subst e5
      obtain ⟨m, hm⟩ : ∃ m, m = ys.length := ⟨_, rfl⟩
      rw [← hm] at ho hyl ⊢
      have HM := Lib.hid hm
      have HO := Lib.hid ho
      have HB := Lib.hid hb
      have HN := Lib.hid (HN3.out.keep hb)
      clear hm hys ho hb
      by_cases hlt : k < L.length
      · have hk16 : k < 16 := by omega
        have hkI : (k : Int) < 16 := by omega
        have hltI : (k : Int) < (L.length : Int) := by omega
        have kr := HN.out.at.2 k hk16
        have hSR : ∀ u, adjB L k u = true → u < L.length := fun u hu => (HREL.out.range k u hu).2
        have HCL := Lib.hid (clique_any w1.heap.size L.length (adjB L) (adjB L k) wr HN.out HREL.out hz1.2 hSR)
        clear hSR
        go_wp2_with fail
        refine HCL.out.mono ?_
        rintro e w4 ⟨rfl, hb4⟩
        have HB4 : Hid (Below w3.heap.size w3 w4) := HB.out.trans (hb4.mono HB.out.size)
        have HO4 := Lib.hid (HO.out.keep hb4)
        obtain ⟨t, ht⟩ : ∃ t, t = simB (adjB L) k := ⟨_, rfl⟩
        rw [← ht] at HNX
        have HT : Hid ((missN (adjB L) (listM (pm (adjB L k))) == 0) = t) := ht.symm
        rw [HT.out]
        clear hb4 kr HCL ht HT
        cases t with
        | false =>
          go_wp2
          go_roundw
          case rel => exact ⟨k + 1, by omega, by go_num, by rw [HNX.out, if_neg (by simp)]; exact HO4.out, HB4.out⟩
          case measure => simp [intOf]; omega
        | true =>
          have HWO : Hid (w4.ownsRow w3.heap.size 2 1 (.slice a5 m c5) m (ys.map (Value.int .i64))) := by
            have h := HO4.out.owns
            rw [← HM.out] at h
            exact h
          go_wp2_with (at_builtin; refine wpList_append_own _ rfl (.tmp 25) (.tmp 27) 31 rfl w3.heap.size 2 i0 (.int .i64 0) 1 8 Try.underlying31 hi hzi0 hzi1 hzi2 rfl (by decide) _ _ _ rfl (HWO.out.alloc _) ⟨w4.heap.size, 0, none⟩ 1 1 [.int .i64 (k : Int)] rfl rfl ?d1 ?d2 ?d3 ?d4 ?d5 ?_)
          case d1 =>
            intro j u hj
            match j, hj with
            | 0, hj =>
              simp at hj; subst hj
              simp [Addr.add]
          case d2 => intro u hu; simp at hu; subst hu; rfl
          case d3 => unfold maxLen; omega
          case d4 => omega
          case d5 => have := HB4.out.size; simp; omega
          intro v12 w12 hown12 hgrow12 _
          have hb12 : Below w3.heap.size w4 w12 := ((Below.refl _ _).alloc HB4.out.size _).grown hgrow12 (by have := HB4.out.size; simp; omega) (fun j hj => (HWO.out.lt j hj).1)
          have HEND : Hid (OwnRow 2 w12 w3.heap.size v12 (simTo (simB (adjB L)) (k + 1)) ∧ Below w3.heap.size w3 w12) := by
            rw [HNX.out]
            simp only [if_true]
            refine ⟨?_, HB4.out.trans (hb12.mono (Nat.le_refl _))⟩
            exact OwnRow.of_ownsRow (xs := ys ++ [(k : Int)]) (n := m + 1) (by simpa using hown12) (by rw [List.length_append, ← HM.out, List.length_singleton]; unfold maxLen; omega) (fun z hz => by
              rcases List.mem_append.1 hz with hz | hz
              · exact HO4.out.1 z hz
              · rw [List.mem_singleton] at hz; subst hz; unfold I64; omega)
          clear hown12 hgrow12 hb12
          go_wp2
          go_roundw
          case rel => exact ⟨k + 1, by omega, by go_num, HEND.out.1, HEND.out.2⟩
          case measure => simp [intOf]; omega
      · obtain rfl : k = L.length := by omega
        go_wp2
        go_ret
        exact ⟨_, _, _, rfl, by rw [HF.out, ← HYS.out]; exact HO.out.mono HB3.out.size, HB3.out.trans (HB.out.mono HB3.out.size)⟩
  · have HI : Hid (simpL L = []) := if_neg hG
    rw [decide_eq_false hG, netArr_no hG]
    clear hG
    go_wp2_with (refine wpList_store_net rfl 65 (.tmp 3) (.tmp 10) rfl w1.heap.size 0 (fun _ => 0) rfl rfl Try.sizeNet 0 (fun _ => 0) hnb ?_; intro w3 hp; have HB3 : Hid (Below w.heap.size w w3) := (HB1.out.alloc hz _).trans (hp.below.mono hz); clear hp)
    go_ret
    exact ⟨0, none, 0, rfl, by rw [HI.out]; exact ⟨by simp, by simp, Or.inl ⟨rfl, rfl⟩⟩, HB3.out⟩

end Go.Proofs.Ytmfolclpddoplaa
