/- Walks: l1DrawAny. -/
import Derived.Test.YtohjfcfcopbmoaaGreatDoorQJ5
import Derived.Deep.AppendLies
import Derived.Deep.RegionLaw

namespace Go.Proofs.YtohjfcfcopbmoaaGreatDoor
open Go.RowKit

set_option maxHeartbeats 16000000 in
set_option maxRecDepth 100000 in
theorem l1DrawAny_any (c nb : Nat) (bv : Value) (w : World) (hc : CurAt w c bv nb) (hb : BytesAt w c bv nb) : Calls Tryz.prog 71 #[.pointer (some ⟨c, 0, none⟩)] w (DrewG w c bv nb) := by
  have hcw := hc.lt
  obtain ⟨i0, hi, hz0, hz1, hz2⟩ := info_parts Tryz.infoI
  have hb0 : Below w.heap.size w (w.alloc (.cells #[.slice none 0 0] 26)) := (Below.refl _ _).alloc (Nat.le_refl _) _
  have hbx0 : BoxAt (w.alloc (.cells #[.slice none 0 0] 26)) w.heap.size (.slice none 0 0) := BoxAt.new _ _ _
  have HBY := Lib.hid hb
  have HC0 := Lib.hid (hc.keepB hb0 hcw)
  have HBY0 := Lib.hid (hb.keepB hb0 (Nat.le_of_lt hcw))
  have HB0 := Lib.hid hb0
  have HBX0 := Lib.hid hbx0
  clear hc hb hb0 hbx0
  go_enter Tryz.func71, Tryz.ntmps71
  go_wp2_with fail
  refine (l1Draw_any c nb bv _ HC0.out HBY0.out).mono ?_
  rintro e w1 ⟨n, M, a, cap, hn1, hn, rfl, ho1, hc1, ht1⟩
  rw [size_alloc1] at ho1
  have hs1 : w.heap.size + 1 ≤ w1.heap.size := by have := ht1.size; rw [size_alloc1] at this; exact this
  have hst : Below w1.heap.size w1 (w1.alloc (.cells #[.slice a n cap] 26)) := (Below.refl _ _).alloc (Nat.le_refl _) _
  have hT : Touched c (c + 1) w (w1.alloc (.cells #[.slice a n cap] 26)) := ((Touched.ofBelow HB0.out).trans ht1).under hst (by omega)
  have hX : BoxAt (w1.alloc (.cells #[.slice a n cap] 26)) w.heap.size (.slice none 0 0) := (HBX0.out.touched ht1 (by omega) (by simp)).keep hst
  obtain ⟨g, cap', eg, hBg, hgs, hcell1⟩ := ho1.place (by rw [maskL_len]; omega)
  clear hcell1
  rw [maskL_len] at eg
  simp only [Value.slice.injEq, true_and] at eg
  obtain ⟨rfl, rfl⟩ := eg
  have HO2 := Lib.hid (ho1.keep hst)
  have HBT2 := Lib.hid (BoxT.new w1 (.slice (some ⟨g, 0, none⟩) n cap) 26)
  have HC2 := Lib.hid (hc1.keepB hst hc1.lt)
  have HT2 := Lib.hid hT
  have HX2 := Lib.hid hX
  clear ho1 hc1 ht1 hst hT hX HC0 HBY0 HB0 HBX0
  go_wp2_with fail
  refine (l1Once_any c nb bv _ _ HC2.out (HT2.out.bytes HBY.out (Nat.le_of_lt hcw)) (by unfold I64; omega)).mono ?_
  rintro e w3 ⟨b3, rfl, hc3, ho3⟩
  have HO3 := Lib.hid (HO2.out.touched (ho3.touched (Nat.le_refl _) (Nat.lt_succ_self c)) (by omega))
  have HBT3 := Lib.hid (HBT2.out.only ho3 (by omega))
  have HC3 := Lib.hid hc3
  have HT3 := Lib.hid (HT2.out.only ho3)
  have HX3 := Lib.hid (HX2.out.only ho3 (by omega))
  clear hc3 ho3 HO2 HBT2 HC2 HT2 HX2
  cases b3 with
  | false =>
    have hmid : MidG w c bv nb w1.heap.size w3 := ⟨_, n, _, cap, HBT3.out, HO3.out, HX3.out, HC3.out, HT3.out, by omega⟩
    obtain ⟨n8, a8, cap8, kb8, k08, f08, q08, hp8⟩ := hmid.done hcw
    have HP := Lib.hid hp8
    have HQ := Lib.hid q08
    clear hmid hp8 q08
    go_wp2
    exact bodyPost_ret (v := .agg #[.slice a8 n8 cap8]) (by simp [results, Tryz.results71, go_sem, HQ.out]) rfl HP.out
  | true =>
    have kb3 := HBT3.out.box.1
    go_wp2_with fail
    refine (l1Below_any c nb bv _ _ HC3.out (HT3.out.bytes HBY.out (Nat.le_of_lt hcw)) (by unfold I64; omega)).mono ?_
    rintro e w4 ⟨y, rfl, hy, hc4, ho4⟩
    have hy' := hy.2 (by omega)
    obtain ⟨v, rfl⟩ : ∃ v : Nat, y = (v : Int) := ⟨y.toNat, by omega⟩
    have hv : v < n := by omega
    have HO4 := Lib.hid (HO3.out.touched (ho4.touched (Nat.le_refl _) (Nat.lt_succ_self c)) (by omega))
    have HBT4 := Lib.hid (HBT3.out.only ho4 (by omega))
    have HC4 := Lib.hid hc4
    have HT4 := Lib.hid (HT3.out.only ho4)
    have HX4 := Lib.hid (HX3.out.only ho4 (by omega))
    clear hc4 ho4 HO3 HBT3 HC3 HT3 HX3 hy hy' kb3
    go_wp2_with fail
    refine (l1Below_any c nb bv _ _ HC4.out (HT4.out.bytes HBY.out (Nat.le_of_lt hcw)) (by unfold I64; omega)).mono ?_
    rintro e w5 ⟨z, rfl, hz, hc5, ho5⟩
    have hz' := hz.2 (by omega)
    have HO5 := Lib.hid (HO4.out.touched (ho5.touched (Nat.le_refl _) (Nat.lt_succ_self c)) (by omega))
    have HBT5 := Lib.hid (HBT4.out.only ho5 (by omega))
    have HC5 := Lib.hid hc5
    have HT5 := Lib.hid (HT4.out.only ho5)
    have HX5 := Lib.hid (HX4.out.only ho5 (by omega))
    clear hc5 ho5 HO4 HBT4 HC4 HT4 HX4 hz
    obtain ⟨g', cap', eg, _, hgs5, hcell5⟩ := HO5.out.place (by rw [maskL_len]; omega)
    simp only [maskL_len, Value.slice.injEq, Option.some.injEq, Addr.mk.injEq, and_true, true_and] at eg
    obtain ⟨rfl, rfl⟩ := eg
    obtain ⟨ar, nr, cr, kr, fr, hor⟩ := hcell5 v (by rw [maskL_len]; exact hv)
    have kb5 := HBT5.out.box.1
    have kf5 := HBT5.out.box.2
    have HKR := Lib.hid kr
    have HFR := Lib.hid fr
    have HOR := Lib.hid hor
    have hmid5 : MidG w c bv nb w1.heap.size w5 := ⟨_, n, _, cap, HBT5.out, HO5.out, HX5.out, HC5.out, HT5.out, by omega⟩
    have HM5 := Lib.hid hmid5
    clear hcell5 hor hmid5
    have hvn : (v : Int) < (n : Int) := by omega
    by_cases e0 : z = 0
    · subst e0
      obtain ⟨xs, hxs⟩ : ∃ xs, xs = nthR (maskL n M) v := ⟨_, rfl⟩
      have hxl : xs.length ≤ 16 := by rw [hxs, maskL_nth M hv]; exact listM_len _
      rw [← hxs] at HOR
      have hws5 : w1.heap.size < w5.heap.size := HBT5.out.lt
      clear hxs
      have HC3 : Hid (xs.length + 1 ≤ maxLen) := by show _ ≤ _; unfold maxLen; omega
      have HC4 : Hid ((xs.length + 1) * 8 ≤ 140737488355328) := by show _ ≤ _; omega
      go_wp2_with fail
      go_region_law (first
        | (go_simp; go_at_call 160; refine (l1Num_any c nb bv 16 _ (HC5.out.keepB (Below.refl _ _).drew HC5.out.lt) ((HT5.out.bytes HBY.out (Nat.le_of_lt hcw)).keepB (Below.refl w5.heap.size _).drew (Nat.le_of_lt HC5.out.lt)) (by omega)).mono ?_; rintro e w6 ⟨x6, rfl, hx6, hc6, ht6⟩; have ht6' : Touched c (c + 1) w5 w6 := (Touched.ofBelow (Below.refl _ _).drew).trans ht6; have HT6 := Lib.hid (HT5.out.trans ht6'); have HC6 := Lib.hid hc6; have HX6x := Lib.hid hx6; have HX6 := Lib.hid (HX5.out.touched ht6' (by omega) (by omega)); have HO6 := Lib.hid (HO5.out.touched ht6' (by omega)); have HOR6 := Lib.hid (HOR.out.touched ht6' (by omega)); have hb6 : w6.heap[w1.heap.size]? = w5.heap[w1.heap.size]? := ht6'.other _ hws5 (by omega); have hg6 : w6.heap[g]? = w5.heap[g]? := ht6'.other _ hgs5 (by omega); have HBT6 : Hid (BoxT 26 w6 w1.heap.size (.slice (some ⟨g, 0, none⟩) n cap)) := (by unfold Hid BoxT; rw [hb6]; exact HBT5.out); have kb6 := HBT6.out.box.1; have kr6 : w6.cell? ⟨g, v, none⟩ = some (.slice ar nr cr) := (World.cell?_of_block (w := w5) hg6).trans HKR.out; have fr6 : w6.frozen? ⟨g, v, none⟩ = false := (World.frozen?_of_block (w := w5) hg6).trans HFR.out; have HKR6 := Lib.hid kr6; have HFR6 := Lib.hid fr6; have hws6 : w1.heap.size < w6.heap.size := HBT6.out.lt; have hgs6 : g < w6.heap.size := Nat.lt_of_lt_of_le hgs5 ht6'.size; have HC5z : Hid (∀ o, w.heap.size + 1 ≤ (w6.alloc o).heap.size) := (fun o => (by rw [size_alloc1]; omega)); clear hx6 hc6 ht6 ht6' hb6 hg6)
        | (refine step_append_lies _ (by rfl) (.tmp 25) (.tmp 28) 33 (by rfl) (w.heap.size + 1) 2 i0 (.int .i64 0) 1 8 Tryz.underlying33 hi hz0 hz1 hz2 rfl (by omega) (.slice ar nr cr) xs.length (xs.map (Value.int .i64)) (by rfl) (HOR6.out.owns.alloc _) ⟨w6.heap.size, 0, none⟩ 1 1 [.int .i64 x6] (by rfl) rfl (World.news_of_block (heap_alloc_new _ _)) (ints_one [x6]) Nat.one_pos HC3.out HC4.out (HC5z.out _) (w6.heap.size + 1) (size_alloc1 _ _) ?_; intro g7 cap7 w7 hown7 hgrow7 hat7 hlt7; obtain ⟨kb7, kr7, fr7, hm7⟩ := MidG.grow HBT6.out HO6.out HX6.out HC6.out HT6.out hcw (by rw [maskL_len]; exact hv) HKR6.out HFR6.out HOR6.out HX6x.out (by omega) hown7 hgrow7 hat7 (by omega); have HM6 := Lib.hid hm7; clear hown7 hgrow7 hat7 hlt7 hm7))
      all_goals (
        go_upto_region 15 with fail
        generalize (w7.setCell ⟨g, v, none⟩ (.slice (some ⟨g7, 0, none⟩) (xs.length + 1) cap7)) = W8 at HM6 ⊢
        obtain ⟨n8, a8, cap8, kb8, k08, f08, q08, hp8⟩ := HM6.out.done hcw
        have HP := Lib.hid hp8
        have HQ := Lib.hid q08
        clear hp8 q08 kb5 kf5 kr fr kb6 kr6 fr6 kb7 kr7 fr7
        go_wp2
        exact bodyPost_ret (v := .agg #[.slice a8 n8 cap8]) (by simp [results, Tryz.results71, go_sem, HQ.out]) rfl HP.out)
    · have d0 : (z == 0) = false := by rw [beq_eq_false_iff_ne]; exact e0
      by_cases e1 : z = 1
      · subst e1
        have hbel : Below w5.heap.size w5 (w5.alloc (.cells #[.int .i64 (v : Int)] 2)) := (Below.refl _ _).alloc (Nat.le_refl _) _
        have hm6 : MidG w c bv nb w1.heap.size ((w5.alloc (.cells #[.int .i64 (v : Int)] 2)).setCell ⟨g, v, none⟩ (.slice (some ⟨w5.heap.size, 0, none⟩) 1 1)) := MidG.row HBT5.out HO5.out HX5.out HC5.out HT5.out hcw (by omega) hbel (by rw [maskL_len]; exact hv) (own_one (by unfold I64; omega)) (by omega)
        rw [World.setCell_alloc_past _ _ _ _ hgs5] at hm6
        have HM6 := Lib.hid hm6
        clear hbel hm6
        go_upto_region 15 with fail
        generalize ((w5.setCell ⟨g, v, none⟩ (.slice (some ⟨w5.heap.size, 0, none⟩) 1 1)).alloc (.cells #[.int .i64 (v : Int)] 2)) = W8 at HM6 ⊢
        obtain ⟨n8, a8, cap8, kb8, k08, f08, q08, hp8⟩ := HM6.out.done hcw
        have HP := Lib.hid hp8
        have HQ := Lib.hid q08
        clear hp8 q08 kb5 kf5 kr fr
        go_wp2
        exact bodyPost_ret (v := .agg #[.slice a8 n8 cap8]) (by simp [results, Tryz.results71, go_sem, HQ.out]) rfl HP.out
      · have d1 : (z == 1) = false := by rw [beq_eq_false_iff_ne]; exact e1
        by_cases e2 : z = 2
        · subst e2
          go_wp2_with fail
          refine (l1Below_any c nb bv _ _ HC5.out (HT5.out.bytes HBY.out (Nat.le_of_lt hcw)) (by unfold I64; omega)).mono ?_
          rintro e w6 ⟨t, rfl, ht, hc6, ho6⟩
          have ht' := ht.2 (by omega)
          obtain ⟨t', rfl⟩ : ∃ t' : Nat, t = (t' : Int) := ⟨t.toNat, by omega⟩
          have ht2 : t' < 2 := by omega
          have HMo := Lib.hid (HM5.out.only hcw (by omega) ho6 hc6)
          have hsz6 : w5.heap.size = w6.heap.size := ho6.size.symm
          clear ht ht' hc6 ho6
          have hem := l1Empty_any (16 + t') w6 (by omega)
          have e16 : ((16 + t' : Nat) : Int) = 16 + (t' : Int) := by omega
          rw [e16] at hem
          have HEM := Lib.hid hem
          clear hem e16
          go_wp2_with fail
          refine HEM.out.mono ?_
          rintro e w7 ⟨n7, a7, c7, rfl, ho7, hb7⟩
          have hbt := HBT5.out.lt
          have hn7 : n7 ≤ 17 := by
            obtain ⟨a5, c5, e5⟩ := ho7.grid.slice
            simp only [Value.slice.injEq] at e5
            rw [e5.2.1, List.length_replicate]
            omega
          obtain ⟨kf7, ⟨u7, kb7⟩, hm7⟩ := HMo.out.put hcw (by omega) hb7 (ho7.mono (by omega)) hn7
          have HM6 := Lib.hid hm7
          clear ho7 hb7 hm7 hbt hn7
          go_upto_region 15 with fail
          generalize (w7.setCell ⟨w1.heap.size, 0, none⟩ (.slice a7 n7 c7)) = W8 at HM6 ⊢
          obtain ⟨n8, a8, cap8, kb8, k08, f08, q08, hp8⟩ := HM6.out.done hcw
          have HP := Lib.hid hp8
          have HQ := Lib.hid q08
          clear hp8 q08 kb5 kf5 kr fr
          go_wp2
          exact bodyPost_ret (v := .agg #[.slice a8 n8 cap8]) (by simp [results, Tryz.results71, go_sem, HQ.out]) rfl HP.out
        · have d2 : (z == 2) = false := by rw [beq_eq_false_iff_ne]; exact e2
          by_cases e3 : z = 3
          · subst e3
            obtain ⟨_, _, hm6⟩ := HM5.out.put hcw (by omega) (Below.refl _ _) (own_nil w5 (w.heap.size + 1)) (by omega)
            have HM6 := Lib.hid hm6
            clear hm6
            go_upto_region 15 with fail
            generalize (w5.setCell ⟨w1.heap.size, 0, none⟩ (.slice none 0 0)) = W8 at HM6 ⊢
            obtain ⟨n8, a8, cap8, kb8, k08, f08, q08, hp8⟩ := HM6.out.done hcw
            have HP := Lib.hid hp8
            have HQ := Lib.hid q08
            clear hp8 q08 kb5 kf5 kr fr
            go_wp2
            exact bodyPost_ret (v := .agg #[.slice a8 n8 cap8]) (by simp [results, Tryz.results71, go_sem, HQ.out]) rfl HP.out
          · have d3 : (z == 3) = false := by rw [beq_eq_false_iff_ne]; exact e3
            obtain rfl : z = 4 := by omega
            have hbel : Below w5.heap.size w5 (w5.alloc (.cells #[] 2)) := (Below.refl _ _).alloc (Nat.le_refl _) _
            have hm6 : MidG w c bv nb w1.heap.size ((w5.alloc (.cells #[] 2)).setCell ⟨g, v, none⟩ (.slice (some ⟨w5.heap.size, 0, none⟩) 0 0)) := MidG.row HBT5.out HO5.out HX5.out HC5.out HT5.out hcw (by omega) hbel (by rw [maskL_len]; exact hv) (own_empty w5) (by omega)
            rw [World.setCell_alloc_past _ _ _ _ hgs5] at hm6
            have HM6 := Lib.hid hm6
            clear hbel hm6
            go_upto_region 15 with fail
            generalize ((w5.setCell ⟨g, v, none⟩ (.slice (some ⟨w5.heap.size, 0, none⟩) 0 0)).alloc (.cells #[] 2)) = W8 at HM6 ⊢
            obtain ⟨n8, a8, cap8, kb8, k08, f08, q08, hp8⟩ := HM6.out.done hcw
            have HP := Lib.hid hp8
            have HQ := Lib.hid q08
            clear hp8 q08 kb5 kf5 kr fr
            go_wp2
            exact bodyPost_ret (v := .agg #[.slice a8 n8 cap8]) (by simp [results, Tryz.results71, go_sem, HQ.out]) rfl HP.out

end Go.Proofs.YtohjfcfcopbmoaaGreatDoor
