/- Walks: OrbitsOf of the program. -/
import Derived.Test.YtnjkhiheapmlmaaQCT1
import Derived.Test.YtnjkhiheapmlmaaQOB1
import Derived.Test.YtnjkhiheapmlmaaRR1
import Derived.Test.YtnjkhiheapmlmaaQW2

namespace Go.Proofs.Ytnjkhiheapmlmaa
open Go.RowKit Go.Shelf
attribute [local go_sem] Oper.semAt_some

/-- The least of each place after the lists pre, and x as far as the place k. -/
def lowL (n : Nat) (pre : List (List Int)) (x : List Int) (k : Nat) : List Int := (List.range n).map (fun v => if v < k then minL (pre ++ [x]) v else minL pre v)
theorem lowL_len (n : Nat) (pre : List (List Int)) (x : List Int) (k : Nat) : (lowL n pre x k).length = n := by simp [lowL]
theorem lowL_nth {n : Nat} {pre : List (List Int)} {x : List Int} {k i : Nat} (hi : i < n) : nth (lowL n pre x k) i = if i < k then minL (pre ++ [x]) i else minL pre i := by
  rw [nth_eq (by rw [lowL_len]; exact hi)]; simp [lowL]
theorem lowL_step {n : Nat} {pre : List (List Int)} {x : List Int} {k : Nat} (hk : k < n) : (lowL n pre x k).set k (min (minL pre k) (nth x k)) = lowL n pre x (k + 1) :=
  nth_ext (by rw [List.length_set, lowL_len, lowL_len]) (fun j hj => by
    rw [List.length_set, lowL_len] at hj
    by_cases e : j = k
    · subst e
      rw [nth_set_same (by rw [lowL_len]; exact hj), lowL_nth hj, if_pos (by omega), minL_snoc]
    · rw [nth_set_other (fun h => e h.symm), lowL_nth hj, lowL_nth hj]
      by_cases h : j < k
      · rw [if_pos h, if_pos (by omega)]
      · rw [if_neg h, if_neg (by omega)])
theorem lowL_zero (n : Nat) (pre : List (List Int)) (x : List Int) : lowL n pre x 0 = (List.range n).map (fun v => minL pre v) := by simp [lowL]
theorem lowL_all (n : Nat) (pre : List (List Int)) (x : List Int) : lowL n pre x n = (List.range n).map (fun v => minL (pre ++ [x]) v) := by
  unfold lowL
  refine List.map_congr_left (fun v hv => ?_)
  rw [List.mem_range] at hv
  rw [if_pos hv]
theorem low_nil (n : Nat) : (List.range n).map (fun v => minL [] v) = allL n := rfl

theorem row_at {w : World} {b n c : Nat} {x : List Int} (h : RowAt w (.slice (some ⟨b, 0, none⟩) n c) x) {i : Nat} (hi : i < x.length) : w.cell? ⟨b, i, none⟩ = some (.int .i64 (nth x i)) := by
  obtain ⟨b', o, c', e, _, _, hc⟩ := h.pos (by omega)
  obtain ⟨⟨rfl, rfl⟩, _, _⟩ : (b = b' ∧ 0 = o) ∧ n = x.length ∧ c = c' := by simpa using e
  have := hc i hi
  rwa [Nat.zero_add] at this
/-- So far. -/
def OrbI (w : World) (bx g n cap : Nat) (pre : List (List Int)) (W : World) : Prop :=
  BoxAt W bx (.slice (some ⟨g, 0, none⟩) n cap) ∧ OwnRow 2 W w.heap.size (.slice (some ⟨g, 0, none⟩) n cap) ((List.range n).map (fun v => minL pre v)) ∧ Below w.heap.size w W

set_option maxHeartbeats 4000000 in
set_option maxRecDepth 100000 in
theorem implOrbitsOf_any (v : Value) (L : List (List Int)) (w : World) (h : GridAt w v L) : Calls Try.prog 34 #[.agg #[v]] w (GaveRow w (orbL L)) := by
  obtain ⟨a0, c0, rfl⟩ := h.slice
  have ha : Below w.heap.size w (w.alloc (.cells #[.slice a0 L.length c0] 29)) := (Below.refl _ _).alloc (Nat.le_refl _) _
  have HG := Lib.hid (h.keep ha)
  have HA := Lib.hid ha
  clear h ha
  refine calls_marks Try.func34 rfl ?_
  simp only [Try.ntmps34, List.size_toArray, List.length_cons, List.length_nil, Nat.reduceAdd, Nat.reduceSub, Array.replicate_succ, Array.replicate_zero, List.push_toArray, List.append_toArray, List.nil_append, List.cons_append]
  go_wp2_with fail
  refine (smallNet_any _ _ _ HG.out).mono ?_
  rintro e w1 ⟨rfl, hb1⟩
  have HB1 : Hid (Below w.heap.size w w1) := HA.out.trans (hb1.mono HA.out.size)
  have hz1 : w.heap.size ≤ w1.heap.size := HB1.out.size
  have hnb := netBlk_new w1 0 (fun _ => 0)
  clear hb1 HG HA
  by_cases hS : SmallP L
  · rw [decide_eq_true hS, smArr_yes hS]
    have HS := Lib.hid hS
    have hzz := hS.1.1
    have HLT : Hid (∀ i, rowM L i < 65536) := fun i => rowM_lt (by omega) (fun v hv => (hS.1.2.1 v hv).1) i
    have HPW : Hid (2 ^ L.length - 1 < 65536) := by
      have : 2 ^ L.length ≤ 2 ^ 16 := Nat.pow_le_pow_right (by omega) hzz.2
      show _ < _; omega
    have HLA : Hid (listM (2 ^ L.length - 1) = allL L.length) := listM_all hzz.2
    clear hS
    go_wp2_with (refine wpList_store_net rfl 64 (.tmp 3) (.tmp 12) rfl w1.heap.size L.length (rowM L) rfl rfl Try.sizeNet 0 (fun _ => 0) hnb ?_; intro w3 hp3; have HN3 := Lib.hid hp3.net.at; have HB3 : Hid (Below w.heap.size w w3) := (HB1.out.alloc hz1 _).trans (hp3.below.mono hz1); have hz3 : w1.heap.size < w3.heap.size := hp3.net.lt; have kn3 := hp3.net.at.1; clear hp3)
    refine (wholeMask_any L.length _ hzz.2).mono ?_
    rintro e w' ⟨rfl, rfl⟩
    go_wp2_with fail
    refine (list_any (2 ^ L.length - 1) _ HPW.out).mono ?_
    rintro e w4 ⟨n4, a4, c4, rfl, ho4, hb4⟩
    rw [HLA.out] at ho4
    obtain ⟨g, cap, e4, hg3, hg4, hcap1, hcap2⟩ := ho4.posB (by rw [allL_len]; omega)
    rw [allL_len] at e4 hcap1
    obtain ⟨rfl, rfl, rfl⟩ : a4 = some ⟨g, 0, none⟩ ∧ n4 = L.length ∧ c4 = cap := by simpa using e4
    have HO4 := Lib.hid ho4
    have HB4 := Lib.hid hb4
    clear e4 ho4 hb4 kn3
    have HBX5 := Lib.hid (BoxAt.new w4 (.slice (some ⟨g, 0, none⟩) L.length c4) 31)
    have HB45 : Hid (Below w4.heap.size w4 (w4.alloc (.cells #[.slice (some ⟨g, 0, none⟩) L.length c4] 31))) := (Below.refl _ _).alloc (Nat.le_refl _) _
    have HB35 : Hid (Below w3.heap.size w3 (w4.alloc (.cells #[.slice (some ⟨g, 0, none⟩) L.length c4] 31))) := HB4.out.trans (HB45.out.mono HB4.out.size)
    go_wp2_with fail
    refine (symmetries_any w1.heap.size L.length (rowM L) _ (HN3.out.keep HB35.out)).mono ?_
    rintro e w5 ⟨rfl, k0, k1, k2, k3, hb5⟩
    simp only [size_alloc1] at k0 k1 k2 k3
    have hs5 : w4.heap.size + 1 < w5.heap.size := block_lt_of_cell k0
    have HB36 : Hid (Below w3.heap.size w3 w5) := HB35.out.trans (hb5.mono HB35.out.size)
    have HBX6 := Lib.hid (HBX5.out.keep hb5)
    have HO6 : Hid (OwnRow 2 w5 w.heap.size (.slice (some ⟨g, 0, none⟩) L.length c4) (allL L.length)) := ((HO4.out.keep HB45.out).keep hb5).mono (Nat.le_trans HB3.out.size (Nat.le_refl _))
    have HN5 := Lib.hid (HN3.out.keep HB36.out)
    have HF5 : Hid (Below w.heap.size w w5) := HB3.out.trans (HB36.out.mono HB3.out.size)
    have HSQ := Lib.hid (lists1_seq 8 (fun k => k = g) w5 (w4.heap.size + 1 + 2) (w4.heap.size + 1 + 3) L.length 131 _ _ (enters_of Try.func131 (by kernel_rfl) rfl)
      (fitting1_choice (fun k => k = g) w5 (w4.heap.size + 1 + 1) (w4.heap.size + 1) w1.heap.size L.length (rowM L) w1.heap.size L.length (rowM L) k1 k0 HN5.out HN5.out hzz.2 hzz.2 HLT.out HLT.out (by omega) (by omega) (by omega) (by omega))
      (fun xs => wiseN_lt _ _ _ _ _) hzz.2 (fun k hk => by rw [hk]; omega) k2 k3 (by omega) (by omega))
    rw [wise_stands HS.out.1] at HSQ
    have HZM : Hid (∀ z ∈ stands L L, z.length = L.length ∧ ∀ i, i < L.length → 0 ≤ nth z i ∧ nth z i < (L.length : Int)) := fun z hz => ⟨stands_len hz, fun i hi => stands_in HS.out.1 hz hi⟩
    have hz5 : w.heap.size ≤ w3.heap.size := HB3.out.size
    obtain ⟨Z, hZ⟩ : ∃ Z, stands L L = Z := ⟨_, rfl⟩
    rw [hZ] at HSQ HZM
    have HZE : Hid (orbL L = (List.range L.length).map (fun v => minL Z v)) := by show _ = _; rw [← orb_row HS.out, hZ]
    have HSI : Hid (∀ k, k < L.length → ∀ pre, pre <+: Z → I64 (minL pre k)) := fun k hk pre hp => by
      have h1 := minL_le pre k
      rcases minL_is pre k with e | ⟨z, hz, e⟩
      · rw [e]; unfold I64; omega
      · have := (HZM.out z (hp.subset hz)).2 k hk
        unfold I64; omega
    simp only [size_alloc1, Nat.add_assoc, Nat.reduceAdd] at HSQ ⊢
    clear k0 k1 k2 k3 hb5 HBX5 HB4 HN3 HN5 HB35 HB36 HB45 HO4 hZ hnb HLT HLA HPW
    go_wp2_with fail
    refine (wpIn_wide (n := 9)).1 ?_
    refine wpIn_rangeFunc_row rfl (by omega) (gf := 112) (lb := #[.pointer (some ⟨w4.heap.size + 3, 0, none⟩), .pointer (some ⟨w4.heap.size + 4, 0, none⟩)]) rfl trivial (enters_of Try.func112 (by kernel_rfl) rfl)
      HSQ.out (fun k hk => by rw [hk]; omega) rfl
      (fun pre W => OrbI w w4.heap.size g L.length c4 pre W)
      (fun _ _ _ => False)
      (fun s A B hs hb => ⟨hs.1.keepB hb (by omega), hs.2.1.blkB (hb.block g (by omega)), hs.2.2.trans (hb.mono (by omega))⟩)
      (fun _ _ _ _ _ h _ => h)
      ⟨HBX6.out, by rw [low_nil]; exact HO6.out, HF5.out⟩
      ?a1 ?assign ?body ?done ?stop
    case assign =>
      intro l b W K hK
      gi_wp2
      exact hK
    case body =>
      intro l pre x b W hI hsz hbl hpx hrow
      obtain ⟨hbx, hor, hb⟩ := hI
      have hxm := HZM.out x (hpx.subset (by simp))
      have HXM := Lib.hid hxm.2
      have hxl := hxm.1
      have HP0 : Hid (∀ k, k < L.length → I64 (minL pre k)) := fun k hk => HSI.out k hk pre ((List.prefix_append pre [x]).trans hpx)
      have HBX := Lib.hid hbx
      have HOR := Lib.hid hor
      have HB := Lib.hid hb
      have HRW := Lib.hid hrow
      clear hbx hor hb hpx hrow hxm HBX6 HO6 HSQ HZM
      gi_wp2_with fail
      gi_loopw [24] (fun iv wx => ∃ k : Nat, k ≤ L.length ∧ iv = .int .i64 k ∧ OwnRow 2 wx w.heap.size (.slice (some ⟨g, 0, none⟩) L.length c4) (lowL L.length pre x k) ∧ BoxAt wx w4.heap.size (.slice (some ⟨g, 0, none⟩) L.length c4) ∧ RowAt wx (.slice (some ⟨b, 0, none⟩) L.length L.length) x ∧ KeepsBut (fun k => k = g) W wx ∧ Below w.heap.size w wx) (fun iv _ => L.length - (intOf iv).toNat)
      case atStart => exact ⟨0, Nat.zero_le _, rfl, by rw [lowL_zero]; exact HOR.out, HBX.out, HRW.out, KeepsBut.refl _ _, HB.out⟩
      case round =>
        clear HOR HBX HRW HB
        rename World => wx
        obtain ⟨k, hk, rfl, hor, hbx, hrw, hkb, hb⟩ := hrel
        by_cases hlt : k < L.length
        · have hbd : Below wx.heap.size wx wx.drew := (Below.refl _ _).drew
          have hxk := HXM.out k hlt
          have hpk := HP0.out k hlt
          have hcb := hbx.1
          have hcx := row_at hrw (i := k) (by omega)
          have hcg := hor.cells' k (by rw [lowL_len]; exact hlt)
          rw [lowL_nth hlt, if_neg (by omega)] at hcg
          obtain ⟨mn, hmn⟩ : ∃ mn, min (minL pre k) (nth x k) = mn := ⟨_, rfl⟩
          obtain ⟨l1, l2, l3, l4⟩ := (hor.keep hbd).laidAt' (lowL_len _ _ _ _) (k := k) hlt (z := mn) (by unfold I64 at hpk ⊢; omega)
          rw [lowL_nth hlt, if_neg (by omega)] at l2
          rw [← hmn, lowL_step hlt] at l1
          have HL1 := Lib.hid l1
          have HBX : Hid (BoxAt (wx.drew.setCell ⟨g, k, none⟩ (.int .i64 (min (minL pre k) (nth x k)))) w4.heap.size (.slice (some ⟨g, 0, none⟩) L.length c4)) := (hbx.keep hbd).setOther (by show g ≠ _; omega) _
          have HKB : Hid (KeepsBut (fun k => k = g) W (wx.drew.setCell ⟨g, k, none⟩ (.int .i64 (min (minL pre k) (nth x k))))) := (hkb.trans (KeepsBut.below hbd)).trans (KeepsBut.setCell _ _ _ rfl)
          have HRW : Hid (RowAt (wx.drew.setCell ⟨g, k, none⟩ (.int .i64 (min (minL pre k) (nth x k)))) (.slice (some ⟨b, 0, none⟩) L.length L.length) x) := hrw.but ((KeepsBut.below (T := fun k => k = g) hbd).trans (KeepsBut.setCell _ _ _ rfl)) (by show ¬ b = g; omega)
          have HB : Hid (Below w.heap.size w (wx.drew.setCell ⟨g, k, none⟩ (.int .i64 (min (minL pre k) (nth x k))))) := (hb.trans (hbd.mono hb.size)).setCell (p := ⟨g, k, none⟩) (by show _ ≤ g; omega) _
          have hltI : (k : Int) < (L.length : Int) := by omega
          obtain ⟨mg, hmg⟩ : ∃ mg, minL pre k = mg := ⟨_, rfl⟩
          obtain ⟨mx, hmx⟩ : ∃ mx, nth x k = mx := ⟨_, rfl⟩
          rw [hmg, hmx] at HBX HKB HRW HB HL1
          rw [hmg] at hcg l2
          rw [hmx] at hcx
          clear hor hbx hrw hkb hb hbd l1 l4 hmn hpk hxk hmg hmx
          gi_wp2_with fail
          refine region_still_round _ 8 (by kernel_rfl) (by kernel_rfl) (by kernel_rfl) ?_
          simp only [List.take_succ_cons, List.take_zero, List.drop_succ_cons, List.drop_zero]
          repeat still_step
          try refine wpStill_nil ?_
          change wpList _ _ _ _ _ wx.drew
          clear hcb hcg hcx
          generalize wx.drew = wd at l2 l3 HBX HKB HRW HB HL1 ⊢
          go_wp2_with fail
          all_goals (
            (first | rw [show min mg mx = mg from by omega] at HBX HKB HRW HB HL1 | rw [show min mg mx = mx from by omega] at HBX HKB HRW HB HL1)
            refine ⟨rfl, ?_⟩
            clear l2 l3
            gi_wp2
            go_roundw
            case rel => exact ⟨k + 1, by omega, by go_num, HL1.out, HBX.out, HRW.out, HKB.out, HB.out⟩
            case measure => simp [intOf]; omega)
        · obtain rfl : k = L.length := by omega
          have HF : Hid (KeepsBut (fun k => k = g) W wx ∧ OrbI w w4.heap.size g L.length c4 (pre ++ [x]) wx) := ⟨hkb, hbx, by rw [← lowL_all]; exact hor, hb⟩
          clear hor hbx hrw hkb hb
          gi_wp2
          exact HF.out
    case done =>
      intro D W hI hD hK
      obtain ⟨hbx, hor, hb⟩ := hI
      have hcc := hbx.1
      have HOR := Lib.hid hor
      have HB := Lib.hid hb
      have HK := Lib.hid hK
      have hDW : D < W.heap.size := (Array.getElem?_eq_some_iff.1 hK).1
      clear hbx hb hK hor
      go_wp2
      refine ⟨by simp, .inl ⟨_, _, rfl, run_takeDeferred HK.out, ?_⟩⟩
      refine ⟨_, results_tmp rfl _ _ _, ?_⟩
      rw [HZE.out]
      exact ⟨_, _, _, rfl, HOR.out.blkB (World.putObj_heap_other (by omega)), HB.out.trans (below_put W D _ (by omega) hDW)⟩
    case stop =>
      intro D c pre W _ _ h _ _
      exact h.elim
  · rw [decide_eq_false hS, smArr_no hS]
    have HS := Lib.hid hS
    clear hS
    go_wp2_with (refine wpList_store_net rfl 64 (.tmp 3) (.tmp 12) rfl w1.heap.size 0 (fun _ => 0) rfl rfl Try.sizeNet 0 (fun _ => 0) hnb ?_; intro w3 hp3; have HB3 : Hid (Below w.heap.size w w3) := (HB1.out.alloc hz1 _).trans (hp3.below.mono hz1); clear hp3)
    refine ⟨_, results_tmp rfl _ _ _, ?_⟩
    rw [show orbL L = [] from if_neg HS.out]
    exact ⟨0, none, 0, rfl, nil_own, HB3.out⟩

end Go.Proofs.Ytnjkhiheapmlmaa
