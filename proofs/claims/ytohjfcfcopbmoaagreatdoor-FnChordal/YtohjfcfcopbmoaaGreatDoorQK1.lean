/- The texts K1, K2, K5, U4, M9, N1, N2, joined. -/
import Derived.Test.YtohjfcfcopbmoaaGreatDoorQJ5
import Derived.Deep.AppendLies
import Derived.Deep.RegionLaw
import Derived.Test.YtohjfcfcopbmoaaGreatDoorQU2
import Derived.Test.YtohjfcfcopbmoaaGreatDoorQM1
import Derived.Test.YtohjfcfcopbmoaaGreatDoorQM4
import Derived.StillTailTactics

/- Walks: l1DrawAny. -/
namespace Go.Proofs.YtohjfcfcopbmoaaGreatDoor
open Go.RowKit

set_option maxHeartbeats 16000000 in
set_option maxRecDepth 100000 in
theorem l1DrawAny_any (c nb : Nat) (bv : Value) (w : World) (hc : CurAt w c bv nb) (hb : BytesAt w c bv nb) : Calls Tryz.prog 71 #[.pointer (some ⟨c, 0, none⟩)] w (DrewG w c bv nb) := by
  have hcw := hc.lt
  obtain ⟨i0, hi, hz0, hz1, hz2⟩ := info_parts Tryz.infoI
  have hb0 : Below w.heap.size w (w.alloc (.cells #[.slice none 0 0] 26)) := (Below.refl _ _).alloc (Nat.le_refl _) _
  have hbx0 : BoxAt (w.alloc (.cells #[.slice none 0 0] 26)) w.heap.size (.slice none 0 0) := BoxAt.new _ _ _
  have HBY := Lib.hid hb
  have HC0 := Lib.hid (hc.keepB hb0 hcw)
  have HBY0 := Lib.hid (hb.keepB hb0 (Nat.le_of_lt hcw))
  have HB0 := Lib.hid hb0
  have HBX0 := Lib.hid hbx0
  clear hc hb hb0 hbx0
  go_enter Tryz.func71, Tryz.ntmps71
  go_wp2_with fail
  refine (l1Draw_any c nb bv _ HC0.out HBY0.out).mono ?_
  rintro e w1 ⟨n, M, a, cap, hn1, hn, rfl, ho1, hc1, ht1⟩
  rw [size_alloc1] at ho1
  have hs1 : w.heap.size + 1 ≤ w1.heap.size := by have := ht1.size; rw [size_alloc1] at this; exact this
  have hst : Below w1.heap.size w1 (w1.alloc (.cells #[.slice a n cap] 26)) := (Below.refl _ _).alloc (Nat.le_refl _) _
  have hT : Touched c (c + 1) w (w1.alloc (.cells #[.slice a n cap] 26)) := ((Touched.ofBelow HB0.out).trans ht1).under hst (by omega)
  have hX : BoxAt (w1.alloc (.cells #[.slice a n cap] 26)) w.heap.size (.slice none 0 0) := (HBX0.out.touched ht1 (by omega) (by simp)).keep hst
  obtain ⟨g, cap', eg, hBg, hgs, hcell1⟩ := ho1.place (by rw [maskL_len]; omega)
  clear hcell1
  rw [maskL_len] at eg
  simp only [Value.slice.injEq, true_and] at eg
  obtain ⟨rfl, rfl⟩ := eg
  have HO2 := Lib.hid (ho1.keep hst)
  have HBT2 := Lib.hid (BoxT.new w1 (.slice (some ⟨g, 0, none⟩) n cap) 26)
  have HC2 := Lib.hid (hc1.keepB hst hc1.lt)
  have HT2 := Lib.hid hT
  have HX2 := Lib.hid hX
  clear ho1 hc1 ht1 hst hT hX HC0 HBY0 HB0 HBX0
  go_wp2_with fail
  refine (l1Once_any c nb bv _ _ HC2.out (HT2.out.bytes HBY.out (Nat.le_of_lt hcw)) (by unfold I64; omega)).mono ?_
  rintro e w3 ⟨b3, rfl, hc3, ho3⟩
  have HO3 := Lib.hid (HO2.out.touched (ho3.touched (Nat.le_refl _) (Nat.lt_succ_self c)) (by omega))
  have HBT3 := Lib.hid (HBT2.out.only ho3 (by omega))
  have HC3 := Lib.hid hc3
  have HT3 := Lib.hid (HT2.out.only ho3)
  have HX3 := Lib.hid (HX2.out.only ho3 (by omega))
  clear hc3 ho3 HO2 HBT2 HC2 HT2 HX2
  cases b3 with
  | false =>
    have hmid : MidG w c bv nb w1.heap.size w3 := ⟨_, n, _, cap, HBT3.out, HO3.out, HX3.out, HC3.out, HT3.out, by omega⟩
    obtain ⟨n8, a8, cap8, kb8, k08, f08, q08, hp8⟩ := hmid.done hcw
    have HP := Lib.hid hp8
    have HQ := Lib.hid q08
    clear hmid hp8 q08
    go_wp2
    exact bodyPost_ret (v := .agg #[.slice a8 n8 cap8]) (by simp [results, Tryz.results71, go_sem, HQ.out]) rfl HP.out
  | true =>
    have kb3 := HBT3.out.box.1
    go_wp2_with fail
    refine (l1Below_any c nb bv _ _ HC3.out (HT3.out.bytes HBY.out (Nat.le_of_lt hcw)) (by unfold I64; omega)).mono ?_
    rintro e w4 ⟨y, rfl, hy, hc4, ho4⟩
    have hy' := hy.2 (by omega)
    obtain ⟨v, rfl⟩ : ∃ v : Nat, y = (v : Int) := ⟨y.toNat, by omega⟩
    have hv : v < n := by omega
    have HO4 := Lib.hid (HO3.out.touched (ho4.touched (Nat.le_refl _) (Nat.lt_succ_self c)) (by omega))
    have HBT4 := Lib.hid (HBT3.out.only ho4 (by omega))
    have HC4 := Lib.hid hc4
    have HT4 := Lib.hid (HT3.out.only ho4)
    have HX4 := Lib.hid (HX3.out.only ho4 (by omega))
    clear hc4 ho4 HO3 HBT3 HC3 HT3 HX3 hy hy' kb3
    go_wp2_with fail
    refine (l1Below_any c nb bv _ _ HC4.out (HT4.out.bytes HBY.out (Nat.le_of_lt hcw)) (by unfold I64; omega)).mono ?_
    rintro e w5 ⟨z, rfl, hz, hc5, ho5⟩
    have hz' := hz.2 (by omega)
    have HO5 := Lib.hid (HO4.out.touched (ho5.touched (Nat.le_refl _) (Nat.lt_succ_self c)) (by omega))
    have HBT5 := Lib.hid (HBT4.out.only ho5 (by omega))
    have HC5 := Lib.hid hc5
    have HT5 := Lib.hid (HT4.out.only ho5)
    have HX5 := Lib.hid (HX4.out.only ho5 (by omega))
    clear hc5 ho5 HO4 HBT4 HC4 HT4 HX4 hz
    obtain ⟨g', cap', eg, _, hgs5, hcell5⟩ := HO5.out.place (by rw [maskL_len]; omega)
    simp only [maskL_len, Value.slice.injEq, Option.some.injEq, Addr.mk.injEq, and_true, true_and] at eg
    obtain ⟨rfl, rfl⟩ := eg
    obtain ⟨ar, nr, cr, kr, fr, hor⟩ := hcell5 v (by rw [maskL_len]; exact hv)
    have kb5 := HBT5.out.box.1
    have kf5 := HBT5.out.box.2
    have HKR := Lib.hid kr
    have HFR := Lib.hid fr
    have HOR := Lib.hid hor
    have hmid5 : MidG w c bv nb w1.heap.size w5 := ⟨_, n, _, cap, HBT5.out, HO5.out, HX5.out, HC5.out, HT5.out, by omega⟩
    have HM5 := Lib.hid hmid5
    clear hcell5 hor hmid5
    have hvn : (v : Int) < (n : Int) := by omega
    by_cases e0 : z = 0
    · subst e0
      obtain ⟨xs, hxs⟩ : ∃ xs, xs = nthR (maskL n M) v := ⟨_, rfl⟩
      have hxl : xs.length ≤ 16 := by rw [hxs, maskL_nth M hv]; exact listM_len _
      rw [← hxs] at HOR
      have hws5 : w1.heap.size < w5.heap.size := HBT5.out.lt
      clear hxs
      have HC3 : Hid (xs.length + 1 ≤ maxLen) := by show _ ≤ _; unfold maxLen; omega
      have HC4 : Hid ((xs.length + 1) * 8 ≤ 140737488355328) := by show _ ≤ _; omega
      go_wp2_with fail
      go_region_law (first
        | (go_simp; go_at_call 160; refine (l1Num_any c nb bv 16 _ (HC5.out.keepB (Below.refl _ _).drew HC5.out.lt) ((HT5.out.bytes HBY.out (Nat.le_of_lt hcw)).keepB (Below.refl w5.heap.size _).drew (Nat.le_of_lt HC5.out.lt)) (by omega)).mono ?_; rintro e w6 ⟨x6, rfl, hx6, hc6, ht6⟩; have ht6' : Touched c (c + 1) w5 w6 := (Touched.ofBelow (Below.refl _ _).drew).trans ht6; have HT6 := Lib.hid (HT5.out.trans ht6'); have HC6 := Lib.hid hc6; have HX6x := Lib.hid hx6; have HX6 := Lib.hid (HX5.out.touched ht6' (by omega) (by omega)); have HO6 := Lib.hid (HO5.out.touched ht6' (by omega)); have HOR6 := Lib.hid (HOR.out.touched ht6' (by omega)); have hb6 : w6.heap[w1.heap.size]? = w5.heap[w1.heap.size]? := ht6'.other _ hws5 (by omega); have hg6 : w6.heap[g]? = w5.heap[g]? := ht6'.other _ hgs5 (by omega); have HBT6 : Hid (BoxT 26 w6 w1.heap.size (.slice (some ⟨g, 0, none⟩) n cap)) := (by unfold Hid BoxT; rw [hb6]; exact HBT5.out); have kb6 := HBT6.out.box.1; have kr6 : w6.cell? ⟨g, v, none⟩ = some (.slice ar nr cr) := (World.cell?_of_block (w := w5) hg6).trans HKR.out; have fr6 : w6.frozen? ⟨g, v, none⟩ = false := (World.frozen?_of_block (w := w5) hg6).trans HFR.out; have HKR6 := Lib.hid kr6; have HFR6 := Lib.hid fr6; have hws6 : w1.heap.size < w6.heap.size := HBT6.out.lt; have hgs6 : g < w6.heap.size := Nat.lt_of_lt_of_le hgs5 ht6'.size; have HC5z : Hid (∀ o, w.heap.size + 1 ≤ (w6.alloc o).heap.size) := (fun o => (by rw [size_alloc1]; omega)); clear hx6 hc6 ht6 ht6' hb6 hg6)
        | (refine step_append_lies _ (by rfl) (.tmp 25) (.tmp 28) 33 (by rfl) (w.heap.size + 1) 2 i0 (.int .i64 0) 1 8 Tryz.underlying33 hi hz0 hz1 hz2 rfl (by omega) (.slice ar nr cr) xs.length (xs.map (Value.int .i64)) (by rfl) (HOR6.out.owns.alloc _) ⟨w6.heap.size, 0, none⟩ 1 1 [.int .i64 x6] (by rfl) rfl (World.news_of_block (heap_alloc_new _ _)) (ints_one [x6]) Nat.one_pos HC3.out HC4.out (HC5z.out _) (w6.heap.size + 1) (size_alloc1 _ _) ?_; intro g7 cap7 w7 hown7 hgrow7 hat7 hlt7; obtain ⟨kb7, kr7, fr7, hm7⟩ := MidG.grow HBT6.out HO6.out HX6.out HC6.out HT6.out hcw (by rw [maskL_len]; exact hv) HKR6.out HFR6.out HOR6.out HX6x.out (by omega) hown7 hgrow7 hat7 (by omega); have HM6 := Lib.hid hm7; clear hown7 hgrow7 hat7 hlt7 hm7))
      all_goals (
        go_upto_region 15 with fail
        generalize (w7.setCell ⟨g, v, none⟩ (.slice (some ⟨g7, 0, none⟩) (xs.length + 1) cap7)) = W8 at HM6 ⊢
        obtain ⟨n8, a8, cap8, kb8, k08, f08, q08, hp8⟩ := HM6.out.done hcw
        have HP := Lib.hid hp8
        have HQ := Lib.hid q08
        clear hp8 q08 kb5 kf5 kr fr kb6 kr6 fr6 kb7 kr7 fr7
        go_wp2
        exact bodyPost_ret (v := .agg #[.slice a8 n8 cap8]) (by simp [results, Tryz.results71, go_sem, HQ.out]) rfl HP.out)
    · have d0 : (z == 0) = false := by rw [beq_eq_false_iff_ne]; exact e0
      by_cases e1 : z = 1
      · subst e1
        have hbel : Below w5.heap.size w5 (w5.alloc (.cells #[.int .i64 (v : Int)] 2)) := (Below.refl _ _).alloc (Nat.le_refl _) _
        have hm6 : MidG w c bv nb w1.heap.size ((w5.alloc (.cells #[.int .i64 (v : Int)] 2)).setCell ⟨g, v, none⟩ (.slice (some ⟨w5.heap.size, 0, none⟩) 1 1)) := MidG.row HBT5.out HO5.out HX5.out HC5.out HT5.out hcw (by omega) hbel (by rw [maskL_len]; exact hv) (own_one (by unfold I64; omega)) (by omega)
        rw [World.setCell_alloc_past _ _ _ _ hgs5] at hm6
        have HM6 := Lib.hid hm6
        clear hbel hm6
        go_upto_region 15 with fail
        generalize ((w5.setCell ⟨g, v, none⟩ (.slice (some ⟨w5.heap.size, 0, none⟩) 1 1)).alloc (.cells #[.int .i64 (v : Int)] 2)) = W8 at HM6 ⊢
        obtain ⟨n8, a8, cap8, kb8, k08, f08, q08, hp8⟩ := HM6.out.done hcw
        have HP := Lib.hid hp8
        have HQ := Lib.hid q08
        clear hp8 q08 kb5 kf5 kr fr
        go_wp2
        exact bodyPost_ret (v := .agg #[.slice a8 n8 cap8]) (by simp [results, Tryz.results71, go_sem, HQ.out]) rfl HP.out
      · have d1 : (z == 1) = false := by rw [beq_eq_false_iff_ne]; exact e1
        by_cases e2 : z = 2
        · subst e2
          go_wp2_with fail
          refine (l1Below_any c nb bv _ _ HC5.out (HT5.out.bytes HBY.out (Nat.le_of_lt hcw)) (by unfold I64; omega)).mono ?_
          rintro e w6 ⟨t, rfl, ht, hc6, ho6⟩
          have ht' := ht.2 (by omega)
          obtain ⟨t', rfl⟩ : ∃ t' : Nat, t = (t' : Int) := ⟨t.toNat, by omega⟩
          have ht2 : t' < 2 := by omega
          have HMo := Lib.hid (HM5.out.only hcw (by omega) ho6 hc6)
          have hsz6 : w5.heap.size = w6.heap.size := ho6.size.symm
          clear ht ht' hc6 ho6
          have hem := l1Empty_any (16 + t') w6 (by omega)
          have e16 : ((16 + t' : Nat) : Int) = 16 + (t' : Int) := by omega
          rw [e16] at hem
          have HEM := Lib.hid hem
          clear hem e16
          go_wp2_with fail
          refine HEM.out.mono ?_
          rintro e w7 ⟨n7, a7, c7, rfl, ho7, hb7⟩
          have hbt := HBT5.out.lt
          have hn7 : n7 ≤ 17 := by
            obtain ⟨a5, c5, e5⟩ := ho7.grid.slice
            simp only [Value.slice.injEq] at e5
            rw [e5.2.1, List.length_replicate]
            omega
          obtain ⟨kf7, ⟨u7, kb7⟩, hm7⟩ := HMo.out.put hcw (by omega) hb7 (ho7.mono (by omega)) hn7
          have HM6 := Lib.hid hm7
          clear ho7 hb7 hm7 hbt hn7
          go_upto_region 15 with fail
          generalize (w7.setCell ⟨w1.heap.size, 0, none⟩ (.slice a7 n7 c7)) = W8 at HM6 ⊢
          obtain ⟨n8, a8, cap8, kb8, k08, f08, q08, hp8⟩ := HM6.out.done hcw
          have HP := Lib.hid hp8
          have HQ := Lib.hid q08
          clear hp8 q08 kb5 kf5 kr fr
          go_wp2
          exact bodyPost_ret (v := .agg #[.slice a8 n8 cap8]) (by simp [results, Tryz.results71, go_sem, HQ.out]) rfl HP.out
        · have d2 : (z == 2) = false := by rw [beq_eq_false_iff_ne]; exact e2
          by_cases e3 : z = 3
          · subst e3
            obtain ⟨_, _, hm6⟩ := HM5.out.put hcw (by omega) (Below.refl _ _) (own_nil w5 (w.heap.size + 1)) (by omega)
            have HM6 := Lib.hid hm6
            clear hm6
            go_upto_region 15 with fail
            generalize (w5.setCell ⟨w1.heap.size, 0, none⟩ (.slice none 0 0)) = W8 at HM6 ⊢
            obtain ⟨n8, a8, cap8, kb8, k08, f08, q08, hp8⟩ := HM6.out.done hcw
            have HP := Lib.hid hp8
            have HQ := Lib.hid q08
            clear hp8 q08 kb5 kf5 kr fr
            go_wp2
            exact bodyPost_ret (v := .agg #[.slice a8 n8 cap8]) (by simp [results, Tryz.results71, go_sem, HQ.out]) rfl HP.out
          · have d3 : (z == 3) = false := by rw [beq_eq_false_iff_ne]; exact e3
            obtain rfl : z = 4 := by omega
            have hbel : Below w5.heap.size w5 (w5.alloc (.cells #[] 2)) := (Below.refl _ _).alloc (Nat.le_refl _) _
            have hm6 : MidG w c bv nb w1.heap.size ((w5.alloc (.cells #[] 2)).setCell ⟨g, v, none⟩ (.slice (some ⟨w5.heap.size, 0, none⟩) 0 0)) := MidG.row HBT5.out HO5.out HX5.out HC5.out HT5.out hcw (by omega) hbel (by rw [maskL_len]; exact hv) (own_empty w5) (by omega)
            rw [World.setCell_alloc_past _ _ _ _ hgs5] at hm6
            have HM6 := Lib.hid hm6
            clear hbel hm6
            go_upto_region 15 with fail
            generalize ((w5.setCell ⟨g, v, none⟩ (.slice (some ⟨w5.heap.size, 0, none⟩) 0 0)).alloc (.cells #[] 2)) = W8 at HM6 ⊢
            obtain ⟨n8, a8, cap8, kb8, k08, f08, q08, hp8⟩ := HM6.out.done hcw
            have HP := Lib.hid hp8
            have HQ := Lib.hid q08
            clear hp8 q08 kb5 kf5 kr fr
            go_wp2
            exact bodyPost_ret (v := .agg #[.slice a8 n8 cap8]) (by simp [results, Tryz.results71, go_sem, HQ.out]) rfl HP.out

end Go.Proofs.YtohjfcfcopbmoaaGreatDoor

/- Walks: a new cursor; DrawEdgesOf; the size test of a code. -/
namespace Go.Proofs.YtohjfcfcopbmoaaGreatDoor
open Go.RowKit

theorem big_any (a : Option Addr) (n cap : Nat) (w : World) : Calls Tryz.prog 11 #[.slice a n cap] w fun e w' => e = .returned (.bool (decide ((4096 : Int) < (n : Int)))) ∧ w = w' := by
  go_enter Tryz.func11, Tryz.ntmps11
  go_wp2
  go_ret
  exact ⟨rfl, rfl⟩

set_option maxHeartbeats 1600000 in
theorem l1New_any (n : Nat) (bv : Value) (w : World) (hb : BytesAt w w.heap.size bv n) : Calls Tryz.prog 70 #[bv] w fun e w' => e = .returned (.pointer (some ⟨w.heap.size, 0, none⟩)) ∧ CurAt w' w.heap.size bv n ∧ Below w.heap.size w w' := by
  obtain ⟨hn, a, cap, rfl, hbs⟩ := hb
  have HBS := Lib.hid hbs
  clear hbs
  go_enter Tryz.func70, Tryz.ntmps70
  go_wp2
  go_loop [3, 4] (fun h i => ∃ (k : Nat) (x : Int), k ≤ n ∧ i = .int .i64 k ∧ h = .int .i64 x) (fun _ i => n - (intOf i).toNat)
  case atStart => exact ⟨0, _, Nat.zero_le _, rfl, rfl⟩
  case round =>
    obtain ⟨k, x, hk, rfl, rfl⟩ := hrel
    by_cases hlt : k < n
    · obtain ⟨b, o, rfl, hbc, hcs⟩ := HBS.out (by omega)
      obtain ⟨y, hy, hcy⟩ := hcs k hlt
      clear hcs
      go_wp2
      go_round
      case rel => exact ⟨k + 1, _, by omega, by go_num, rfl⟩
      case measure => simp [intOf]; omega
    · obtain rfl : k = n := by omega
      go_wp2
      go_ret
      exact ⟨rfl, ⟨0, x, Nat.zero_le _, heap_alloc_new _ _⟩, (Below.refl _ _).alloc (Nat.le_refl _) _⟩

end Go.Proofs.YtohjfcfcopbmoaaGreatDoor

/- Walks: DrawEdgesOf. -/
namespace Go.Proofs.YtohjfcfcopbmoaaGreatDoor
open Go.RowKit

theorem BytesAt.wide {w : World} {c c' n : Nat} {bv : Value} (h : BytesAt w c bv n) (hc : c ≤ c') : BytesAt w c' bv n := by
  obtain ⟨h1, a, cap, e, h2⟩ := h
  refine ⟨h1, a, cap, e, fun hn => ?_⟩
  obtain ⟨b, o, ea, hb, hcs⟩ := h2 hn
  exact ⟨b, o, ea, by omega, hcs⟩

/-- A call has handed back some graph of its own make, and has turned nothing that was there. -/
def GaveSome (w : World) (e : Ending) (w' : World) : Prop := ∃ L, GaveGraph w L e w'

end Go.Proofs.YtohjfcfcopbmoaaGreatDoor

/- Walks: a graph and a row drawn. -/
namespace Go.Proofs.YtohjfcfcopbmoaaGreatDoor
open Go.RowKit

/-- A graph and a row have been drawn. -/
def GaveGR (w : World) (e : Ending) (w' : World) : Prop :=
  ∃ L n a cap xs k av cv, e = .returned (.tuple #[.agg #[.slice a n cap], .slice av k cv]) ∧ n ≤ 17 ∧ xs.length ≤ 18 ∧ GridAt w' (.slice a n cap) L ∧ RowAt w' (.slice av k cv) xs ∧ Below w.heap.size w w'

/-- The worlds in which the row may be drawn: before or after the graph has been laid into its box. -/
structure Laid (w w1 W : World) (bv : Value) (n : Nat) (v : Value) (L : List (List Int)) (b : Nat) : Prop where
  cur : CurAt W (w.heap.size + 1) bv n
  byt : BytesAt W (w.heap.size + 1) bv n
  grid : OwnGrid 2 33 W w1.heap.size v L
  box : BoxAt W b v
  bel : Below w.heap.size w W
  lo : w.heap.size + 1 < b
  sz : b < W.heap.size
  s1 : w.heap.size + 1 < w1.heap.size

theorem Laid.drew {w w1 W : World} {bv : Value} {n : Nat} {v : Value} {L : List (List Int)} {b : Nat} (h : Laid w w1 W bv n v L b) : Laid w w1 W.drew bv n v L b :=
  have hb : Below W.heap.size W W.drew := (Below.refl _ _).drew
  ⟨h.cur.keepB hb h.cur.lt, h.byt.keepB hb (Nat.le_of_lt h.cur.lt), h.grid.keep hb, h.box.keep hb, h.bel.drew, h.lo, h.sz, h.s1⟩
theorem Laid.touched {w w1 W W' : World} {bv : Value} {n : Nat} {v : Value} {L : List (List Int)} {b : Nat} (h : Laid w w1 W bv n v L b) (ht : Touched (w.heap.size + 1) (w.heap.size + 1 + 1) W W') (hc : CurAt W' (w.heap.size + 1) bv n) : Laid w w1 W' bv n v L b :=
  ⟨hc, ht.bytes h.byt (Nat.le_of_lt h.cur.lt), h.grid.touched ht (by have := h.s1; omega), h.box.touched ht (by have := h.lo; omega) h.sz, h.bel.trans ((ht.below (Nat.le_of_lt h.cur.lt)).mono (by omega)), h.lo, by have := h.sz; have := ht.size; omega, h.s1⟩

end Go.Proofs.YtohjfcfcopbmoaaGreatDoor

/- Walks: the model's copy of a graph. -/
namespace Go.Proofs.YtohjfcfcopbmoaaGreatDoor
open Go.RowKit

/-- The boxes of the model's copy at work. -/
structure CopyWork (w0 : World) (v : Value) (L : List (List Int)) (k : Nat) (w : World) : Prop where
  arg : BoxAt w w0.heap.size v
  res : BoxAt w (w0.heap.size + 1) (.slice none 0 0)
  out : ∃ a c, BoxAt w (w0.heap.size + 1 + 1) (.slice a k c) ∧ OwnGrid 2 33 w (w0.heap.size + 1 + 1 + 1) (.slice a k c) (L.take k)
  bel : Below w0.heap.size w0 w
  size : w0.heap.size + 1 + 1 + 1 ≤ w.heap.size

theorem take_snocR {L : List (List Int)} {k : Nat} (h : k < L.length) : L.take (k + 1) = L.take k ++ [nthR L k] := by
  rw [List.take_succ_eq_append_getElem h, nthR_eq h]

/-- A row laid, its box laid, the grid grown by it, put back: the copy has one row more. -/
theorem CopyWork.grow {w0 w w2 w7 : World} {v : Value} {L : List (List Int)} {k g cap : Nat} {a : Option Addr} {c : Nat} {rv : Value} {R : Nat → Value} (h : CopyWork w0 v L k w) (hk : k < L.length) (hl : L.length ≤ 1048576) (hb : Below w.heap.size w w2) (hr : OwnRow 2 w2 w.heap.size rv (nthR L k))
    (hbx : BoxAt w (w0.heap.size + 1 + 1) (.slice a k c)) (hR : w.ownsRow (w0.heap.size + 1 + 1 + 1) 33 1 (.slice a k c) k ((List.range k).map R)) (hRr : ∀ i, i < k → OwnRow 2 w (w0.heap.size + 1 + 1 + 1) (R i) (nthR (L.take k) i)) (hRd : ∀ i j q, i < j → j < k → (R i).ownBlock = some q → (R j).ownBlock ≠ some q)
    (hown : w7.ownsRow (w0.heap.size + 1 + 1 + 1) 33 1 (.slice (some ⟨g, 0, none⟩) (k + 1) cap) (k + 1) ((List.range k).map R ++ [rv])) (hgrow : (w2.alloc (.cells #[rv] 33)).grownBy w7 (Value.slice a k c).ownBlock) :
    BoxAt w7 (w0.heap.size + 1 + 1) (.slice a k c) ∧ CopyWork w0 v L (k + 1) (w7.setCell ⟨w0.heap.size + 1 + 1, 0, none⟩ (.slice (some ⟨g, 0, none⟩) (k + 1) cap)) := by
  have hsz := h.size
  have htl : (L.take k).length = k := by rw [List.length_take]; omega
  have hW : Below w.heap.size w (w2.alloc (.cells #[rv] 33)) := hb.alloc hb.size _
  have hbw : Below (w0.heap.size + 1 + 1 + 1) w w7 := (hW.mono hsz).grown hgrow (by rw [size_alloc1]; have := hb.size; omega) (fun j hj => (hR.lt j hj).1)
  have hog : OwnGrid 2 33 w7 (w0.heap.size + 1 + 1 + 1) (.slice (some ⟨g, 0, none⟩) (k + 1) cap) (L.take k ++ [nthR L k]) := by
    refine OwnGrid.snoc (w0 := w) (w := w2.alloc (.cells #[rv] 33)) (rv := rv) (n := k) (v := .slice a k c) (by decide) hW hsz ?_ htl.symm (by rw [htl]; unfold maxLen; omega) R (by rw [htl]; exact hR) (by rw [htl]; exact hRr) (by rw [htl]; exact hRd) (by rw [htl]; exact hown) hgrow
    exact hr.keep ((Below.refl _ _).alloc (Nat.le_refl _) _)
  rw [← take_snocR hk] at hog
  have hbx7 := hbx.keepB hbw (by omega)
  exact ⟨hbx7, (h.arg.keepB hbw (by omega)).setOther (by simp; omega) _, (h.res.keepB hbw (by omega)).setOther (by simp) _, ⟨_, cap, hbx7.set _, hog.setBelow (by simp) _⟩, (h.bel.trans (hbw.mono (by omega))).setCell (by simp; omega) _, by rw [size_setCell1]; exact Nat.le_trans hsz hbw.size⟩

set_option maxHeartbeats 3200000 in
set_option maxRecDepth 100000 in
theorem l1CopyGraph_any (v : Value) (L : List (List Int)) (w : World) (h : GridAt w v L) (hs : Small L) : Calls Tryz.prog 151 #[.agg #[v]] w (GaveGraph w L) := by
  obtain ⟨i0, hi, hz0, hz1, hz2⟩ := info_parts Tryz.infoR
  obtain ⟨a0, c0, rfl⟩ := h.slice
  have hl := hs.1
  have HS := Lib.hid hs.2
  have HG := Lib.hid h
  have T0 : Hid (CopyWork w (.slice a0 L.length c0) L 0 (((w.alloc (.cells #[.slice a0 L.length c0] 26)).alloc (.cells #[.slice none 0 0] 26)).alloc (.cells #[.slice none 0 0] 26))) := by
    refine ⟨⟨by go_simp, by go_simp⟩, ⟨by go_simp, by go_simp⟩, ⟨none, 0, ⟨by go_simp, by go_simp⟩, own_nil _ _⟩, (((Below.refl _ _).alloc (Nat.le_refl _) _).alloc (by simp) _).alloc (by simp; omega) _, by simp⟩
  clear h hs
  go_enter Tryz.func151, Tryz.ntmps151
  go_wp2_with fail
  go_loopw [4] (fun i wr => ∃ k : Nat, k ≤ L.length ∧ i = .int .i64 k ∧ CopyWork w (.slice a0 L.length c0) L k wr) (fun i _ => L.length - (intOf i).toNat)
  case atStart => exact ⟨0, Nat.zero_le _, rfl, T0.out⟩
  case round =>
    obtain ⟨k, hk, rfl, hw⟩ := hrel
    have HW := Lib.hid hw
    have kb := hw.arg.1
    by_cases hlt : k < L.length
    · obtain ⟨b, o, c', A, C, e2, l1, l2, hc⟩ := HG.out.pos (by omega)
      simp only [Value.slice.injEq, true_and] at e2
      obtain ⟨rfl, rfl⟩ := e2
      have hck := cell_keep hw.bel (hc k hlt).1
      have HRK := Lib.hid ((hc k hlt).2.keep hw.bel)
      obtain ⟨ag, cg, hbx, hog⟩ := hw.out
      obtain ⟨R, hR, hRr, hRd⟩ := hog.owns
      have htl : (L.take k).length = k := by rw [List.length_take]; omega
      rw [htl] at hR hRr hRd
      have kt := hbx.1
      have ft := hbx.2
      have HBX := Lib.hid hbx
      have HR := Lib.hid hR
      have HRr := Lib.hid hRr
      have HRd := Lib.hid hRd
      have hzr := hw.size
      have hrl := HS.out k hlt
      have HC3 : Hid (k + 1 ≤ maxLen) := by show _ ≤ _; unfold maxLen; omega
      have HC4 : Hid ((k + 1) * 24 ≤ 140737488355328) := by show _ ≤ _; omega
      clear hc hw hbx hog hR hRr hRd htl
      go_wp2_with fail
      go_region_law (first
        | (go_simp; go_at_call 219; refine (l1Copy_any _ (nthR L k) _ (HRK.out.keep (Below.refl _ _).drew) hrl).mono ?_; rintro e w2 ⟨n2, a2, c2, rfl, ho2, hb2⟩; have HB2 : Hid (Below wr.heap.size wr w2) := (Below.refl _ _).drew.trans hb2; have HO2 : Hid (OwnRow 2 w2 wr.heap.size (.slice a2 n2 c2) (nthR L k)) := ho2; have kt2 := cell_keep HB2.out kt; have kt2a : (w2.alloc (.cells #[.slice a2 n2 c2] 33)).cell? ⟨w.heap.size + 1 + 1, 0, none⟩ = some (.slice ag k cg) := cell_keep ((Below.refl _ _).alloc (Nat.le_refl _) _) kt2; have HOR2 : Hid (w2.ownsRow (w.heap.size + 1 + 1 + 1) 33 1 (.slice ag k cg) k ((List.range k).map R)) := (⟨HR.out.1, HR.out.2.imp (fun h => h) (fun ⟨g, cap, cur, e, hgB, hh, r⟩ => ⟨g, cap, cur, e, hgB, by rw [HB2.out.block g (Array.getElem?_eq_some_iff.1 hh).1]; exact hh, r⟩)⟩); have HZ2 : Hid (w.heap.size + 1 + 1 + 1 ≤ (w2.alloc (.cells #[.slice a2 n2 c2] 33)).heap.size) := (by show _ ≤ _; rw [size_alloc1]; have := HB2.out.size; omega); clear ho2 hb2)
        | (refine step_append_lies _ (by rfl) (.tmp 14) (.tmp 21) 24 (by rfl) (w.heap.size + 1 + 1 + 1) 33 i0 (.slice none 0 0) 1 24 Tryz.underlying24 hi hz0 hz1 hz2 rfl (by omega) (.slice ag k cg) k ((List.range k).map R) (by rfl) (HOR2.out.alloc _) ⟨w2.heap.size, 0, none⟩ 1 1 [.slice a2 n2 c2] (by rfl) rfl (World.news_of_block (heap_alloc_new _ _)) (fun u hu => by simp at hu; subst hu; rfl) Nat.one_pos HC3.out HC4.out HZ2.out (w2.heap.size + 1) (size_alloc1 _ _) ?_; intro g7 cap7 w7 hown7 hgrow7 hat7 hlt7; obtain ⟨hbx7, hw7⟩ := HW.out.grow hlt hl HB2.out HO2.out HBX.out HR.out HRr.out HRd.out hown7 hgrow7; have kt7 := hbx7.1; have ft7 := hbx7.2; have HW7 := Lib.hid hw7; clear hown7 hgrow7 hat7 hlt7 hbx7 hw7))
      all_goals (
        clear kt7 ft7 kt2 kt2a kt ft kb hck
        go_wp2
        go_roundw
        case rel => exact ⟨k + 1, by omega, by go_num, HW7.out⟩
        case measure => simp [intOf]; omega)
    · obtain rfl : k = L.length := by omega
      obtain ⟨ag, cg, hbx, hog⟩ := hw.out
      have kt := hbx.1
      have kr := hw.res.1
      have kf := hw.res.2
      rw [List.take_length] at hog
      have HOG := Lib.hid hog
      have HRS := Lib.hid hw.res
      clear hbx hog hw
      go_wp2
      have q0 : (wr.setCell ⟨w.heap.size + 1, 0, none⟩ (.slice ag L.length cg)).cell? ⟨w.heap.size + 1, 0, none⟩ = some (.slice ag L.length cg) := cell_set_same _ HRS.out.1
      refine bodyPost_ret (v := .agg #[.slice ag L.length cg]) (by simp [results, Tryz.results151, go_sem, q0]) rfl ⟨L.length, ag, cg, rfl, ?_, ?_⟩
      · exact (HOG.out.setBelow (by simp) _).mono (by omega)
      · exact HW.out.bel.setCell (by simp) _

end Go.Proofs.YtohjfcfcopbmoaaGreatDoor

/- Walks: an edge contracted. -/
namespace Go.Proofs.YtohjfcfcopbmoaaGreatDoor
open Go.RowKit

theorem minA_any (x y : Int) (w : World) : Calls Tryz.prog 222 #[.int .i64 x, .int .i64 y] w fun e w' => e = .returned (.int .i64 (min x y)) ∧ w = w' := by
  by_cases h : x < y
  · have e : min x y = x := by omega
    have d : decide (x < y) = true := by simpa using h
    rw [e]
    clear e h
    go_enter Tryz.func222, Tryz.ntmps222
    go_wp2
    go_ret
    exact ⟨rfl, rfl⟩
  · have e : min x y = y := by omega
    have d : decide (x < y) = false := by simpa using h
    rw [e]
    clear e h
    go_enter Tryz.func222, Tryz.ntmps222
    go_wp2
    go_ret
    exact ⟨rfl, rfl⟩
theorem maxA_any (x y : Int) (w : World) : Calls Tryz.prog 124 #[.int .i64 x, .int .i64 y] w fun e w' => e = .returned (.int .i64 (max x y)) ∧ w = w' := by
  by_cases h : y < x
  · have e : max x y = x := by omega
    have d : decide (y < x) = true := by simpa using h
    rw [e]
    clear e h
    go_enter Tryz.func124, Tryz.ntmps124
    go_wp2
    go_ret
    exact ⟨rfl, rfl⟩
  · have e : max x y = y := by omega
    have d : decide (y < x) = false := by simpa using h
    rw [e]
    clear e h
    go_enter Tryz.func124, Tryz.ntmps124
    go_wp2
    go_ret
    exact ⟨rfl, rfl⟩

/-- Who is near whom when a has been joined to the vertices of ys but itself. -/
def conA (L : List (List Int)) (a : Nat) (ys : List Int) (i j : Nat) : Bool := adjB L i j || (i == a && j != a && hasB ys (j : Int)) || (j == a && i != a && hasB ys (i : Int))
theorem conA_nil (L : List (List Int)) (a i j : Nat) : conA L a [] i j = adjB L i j := by
  unfold conA
  have : ∀ z : Int, hasB [] z = false := fun z => by cases h : hasB [] z with | false => rfl | true => (rw [hasB_iff] at h; obtain ⟨q, hq, _⟩ := h; simp at hq)
  rw [this, this]; simp
theorem hasB_snoc (xs : List Int) (y z : Int) : hasB (xs ++ [y]) z = (hasB xs z || z == y) := by
  rw [Bool.eq_iff_iff, hasB_mem, Bool.or_eq_true, hasB_mem, beq_iff_eq]
  simp
theorem conA_same (L : List (List Int)) (a : Nat) (ys : List Int) (i j : Nat) : conA L a (ys ++ [(a : Int)]) i j = conA L a ys i j := by
  unfold conA
  rw [hasB_snoc, hasB_snoc]
  by_cases h1 : j = a
  · subst h1
    by_cases h2 : i = j
    · subst h2; simp
    · have e : ((i : Int) == (j : Int)) = false := by rw [beq_eq_false_iff_ne]; omega
      rw [e]; simp
  · have e : ((j : Int) == (a : Int)) = false := by rw [beq_eq_false_iff_ne]; omega
    have e1 : (j == a) = false := by rw [beq_eq_false_iff_ne]; exact h1
    rw [e, e1]; simp
theorem conA_link (L : List (List Int)) {a y : Nat} (ys : List Int) (hy : y ≠ a) (i j : Nat) : conA L a (ys ++ [(y : Int)]) i j = linkA (conA L a ys) a y i j := by
  unfold linkA conA
  rw [hasB_snoc, hasB_snoc]
  have c1 : ((j : Int) == (y : Int)) = (j == y) := by rw [Bool.eq_iff_iff, beq_iff_eq, beq_iff_eq]; omega
  have c2 : ((i : Int) == (y : Int)) = (i == y) := by rw [Bool.eq_iff_iff, beq_iff_eq, beq_iff_eq]; omega
  rw [c1, c2]
  have d1 : j = y → (j != a) = true := fun h => by rw [bne_iff_ne]; omega
  have d2 : i = y → (i != a) = true := fun h => by rw [bne_iff_ne]; omega
  by_cases h1 : j = y
  · have e := d1 h1
    have f : (j == a) = false := by rw [beq_eq_false_iff_ne]; omega
    have g : (j == y) = true := by rw [beq_iff_eq]; exact h1
    rw [e, f, g]
    cases adjB L i j <;> cases (i == a) <;> cases hasB ys (j : Int) <;> simp
  · have g : (j == y) = false := by rw [beq_eq_false_iff_ne]; exact h1
    rw [g]
    by_cases h2 : i = y
    · have e := d2 h2
      have f : (i == a) = false := by rw [beq_eq_false_iff_ne]; omega
      have g : (i == y) = true := by rw [beq_iff_eq]; exact h2
      rw [e, f, g]
      cases adjB L i j <;> cases (j == a) <;> cases hasB ys (i : Int) <;> simp
    · have g : (i == y) = false := by rw [beq_eq_false_iff_ne]; exact h2
      rw [g]; simp

/-- The graph in which the edge is contracted, but for the vertex that goes. -/
def conG (L : List (List Int)) (a b : Nat) : List (List Int) := adjL L.length (conA L a (nthR L b))
theorem conG_graph {L : List (List Int)} (hG : GraphP L) {a b : Nat} (ha : a < L.length) (hb : b < L.length) : GraphP (conG L a b) := by
  have hr : ∀ z : Nat, hasB (nthR L b) (z : Int) = true → z < L.length := by
    intro z hz
    obtain ⟨q, hq, e⟩ := (hasB_iff _ _).1 hz
    have := ((hG.2.1 b hb).1 q hq).2.1
    rw [e] at this
    omega
  refine adjL_graph hG.1 ?_ ?_ ?_
  · intro i j h
    unfold conA at h
    simp only [Bool.or_eq_true, Bool.and_eq_true, beq_iff_eq] at h
    rcases h with (h | h) | h
    · exact (adjB_range hG h).2
    · exact hr j h.2
    · omega
  · intro i j
    unfold conA
    rw [adjB_sym hG i j]
    cases adjB L j i <;> cases (i == a && j != a && hasB (nthR L b) (j : Int)) <;> cases (j == a && i != a && hasB (nthR L b) (i : Int)) <;> rfl
  · intro i
    unfold conA
    rw [adjB_self hG]
    by_cases h : i = a
    · subst h; simp
    · have : (i == a) = false := by rw [beq_eq_false_iff_ne]; exact h
      rw [this]; simp
theorem conG_len (L : List (List Int)) (a b : Nat) : (conG L a b).length = L.length := adjL_len _ _
theorem adjB_adjL {n : Nat} {A : Nat → Nat → Bool} (hG : GraphP (adjL n A)) {i j : Nat} (hi : i < n) (hj : j < 16) : adjB (adjL n A) i j = A i j := by
  rw [← adjB_has hG (by rw [adjL_len]; exact hi) hj, adjL_nth _ hi, Bool.eq_iff_iff, hasB_mem, listM_mem]
  constructor
  · rintro ⟨q, h1, h2, h3⟩
    have : q = j := by omega
    subst this
    rw [pm_bit, Bool.and_eq_true] at h2
    exact h2.2
  · intro h
    exact ⟨j, hj, by rw [pm_bit, h]; simp [hj], rfl⟩
theorem rowM_adjL {n : Nat} {A : Nat → Nat → Bool} (hG : GraphP (adjL n A)) {i : Nat} (hi : i < n) : rowM (adjL n A) i = pm (A i) := by
  rw [rowM_pm hG]
  exact pm_congr (fun j hj => adjB_adjL hG hi hj)
theorem row_list {L : List (List Int)} (hG : GraphP L) {b : Nat} (hb : b < L.length) : listM (rowM L b) = nthR L b := by
  have h : nthR (adjL L.length (adjB L)) b = nthR L b := by rw [graph_adjL hG]
  rw [adjL_nth _ hb] at h
  rw [rowM_pm hG]
  exact h

/-- The answer. -/
def conL (L : List (List Int)) (u x : Int) : List (List Int) := pickL (conG L (min u x).toNat (max u x).toNat) (restL L.length (max u x).toNat) (edgeB L u x)
theorem conL_small (L : List (List Int)) (u x : Int) : Small (conL L u x) := pickL_small (fun _ => restL_len _ _)
theorem conL_no {L : List (List Int)} {u x : Int} (h : edgeB L u x = false) : conL L u x = [] := by rw [conL, h]; rfl
/-- The two ends of an edge, the lesser first. -/
theorem edgeB_ends {L : List (List Int)} {u x : Int} (h : edgeB L u x = true) : GraphP L ∧ ∃ a b : Nat, ((u = (a : Int) ∧ x = (b : Int)) ∨ (u = (b : Int) ∧ x = (a : Int))) ∧ a < b ∧ b < L.length := by
  unfold edgeB inB at h
  simp at h
  obtain ⟨⟨⟨hG, hu⟩, hx⟩, hh⟩ := h
  have hne : u ≠ x := by
    intro e
    subst e
    have := (hG.2.1 u.toNat (by omega)).2
    rw [Int.toNat_of_nonneg hu.1, hh] at this
    cases this
  exact ⟨hG, (min u x).toNat, (max u x).toNat, by omega, by omega, by omega⟩

theorem OwnRow.put {T T2 : TypeId} {w w' : World} {B g n : Nat} {M : Nat → Nat} {v : Value} {xs : List Int} (h : OwnRow T w B v xs) (hp : NetPut T2 w w' g n M) (hg : g < B) : OwnRow T w' B v xs := by
  obtain ⟨h1, h2, h3⟩ := h
  refine ⟨h1, h2, ?_⟩
  rcases h3 with h3 | ⟨g', cap, cur, e, hg', hh, r⟩
  · exact Or.inl h3
  · exact Or.inr ⟨g', cap, cur, e, hg', by rw [hp.other g' (by omega)]; exact hh, r⟩
theorem Two.putG {T : TypeId} {w0 : World} {v : Value} {w w' : World} {g n : Nat} {M : Nat → Nat} (h : Two w0 v w) (hp : NetPut T w w' g n M) (hg : w0.heap.size + 1 < g) : Two w0 v w' :=
  ⟨h.arg.keepB hp.below (by omega), h.res.keepB hp.below hg, h.bel.trans (hp.below.mono (by omega))⟩
theorem conG_pick {L : List (List Int)} (hG : GraphP L) {a b : Nat} (ha : a < L.length) (hb : b < L.length) : ∀ i j, i < (restL L.length b).length → j < (restL L.length b).length → pickA (conG L a b) (restL L.length b) i j = hasM (pm (conA L a (nthR L b) (nth (restL L.length b) i).toNat)) (nth (restL L.length b) j) := by
  intro i j hi hj
  have hz := hG.1
  have hGc := conG_graph hG ha hb
  have hin := restL_in hz.2 hb
  rw [pickA_impl hGc (fun i hi => by rw [conG_len]; exact hin i hi) i j hi hj]
  have := hin i hi
  unfold conG at hGc ⊢
  rw [rowM_adjL hGc (by omega)]

end Go.Proofs.YtohjfcfcopbmoaaGreatDoor

/- Walks: the model's contraction. -/
namespace Go.Proofs.YtohjfcfcopbmoaaGreatDoor
open Go.RowKit

theorem graph_small {L : List (List Int)} (hG : GraphP L) : Small L := by
  rw [← graph_adjL hG]
  exact adjL_small _ _ hG.1.2

end Go.Proofs.YtohjfcfcopbmoaaGreatDoor
