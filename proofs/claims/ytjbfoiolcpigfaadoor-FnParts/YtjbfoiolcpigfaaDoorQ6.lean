/- The texts K1, K2, K5, FP2, Z4, K4, joined. -/
import Derived.Test.YtjbfoiolcpigfaaDoorQ5
import Derived.Deep.AppendLies
import Derived.Deep.RegionLaw
import Derived.Test.YtjbfoiolcpigfaaDoorQ4
import Derived.Test.YtjbfoiolcpigfaaDoorQ2
import Derived.RangeFuncFrom
import Derived.Test.YtjbfoiolcpigfaaDoorA4

/- Walks: l1DrawAny. -/
namespace Go.Proofs.YtjbfoiolcpigfaaDoor
open Go.RowKit

set_option maxHeartbeats 16000000 in
set_option maxRecDepth 100000 in
theorem l1DrawAny_any (c nb : Nat) (bv : Value) (w : World) (hc : CurAt w c bv nb) (hb : BytesAt w c bv nb) : Calls Tryd.prog 94 #[.pointer (some ⟨c, 0, none⟩)] w (DrewG w c bv nb) := by
  have hcw := hc.lt
  obtain ⟨i0, hi, hz0, hz1, hz2⟩ := info_parts Tryd.infoI
  have hb0 : Below w.heap.size w (w.alloc (.cells #[.slice none 0 0] 29)) := (Below.refl _ _).alloc (Nat.le_refl _) _
  have hbx0 : BoxAt (w.alloc (.cells #[.slice none 0 0] 29)) w.heap.size (.slice none 0 0) := BoxAt.new _ _ _
  have HBY := Lib.hid hb
  have HC0 := Lib.hid (hc.keepB hb0 hcw)
  have HBY0 := Lib.hid (hb.keepB hb0 (Nat.le_of_lt hcw))
  have HB0 := Lib.hid hb0
  have HBX0 := Lib.hid hbx0
  clear hc hb hb0 hbx0
  go_enter Tryd.func94, Tryd.ntmps94
  go_wp2_with fail
  refine (l1Draw_any c nb bv _ HC0.out HBY0.out).mono ?_
  rintro e w1 ⟨n, M, a, cap, hn1, hn, rfl, ho1, hc1, ht1⟩
  rw [size_alloc1] at ho1
  have hs1 : w.heap.size + 1 ≤ w1.heap.size := by have := ht1.size; rw [size_alloc1] at this; exact this
  have hst : Below w1.heap.size w1 (w1.alloc (.cells #[.slice a n cap] 29)) := (Below.refl _ _).alloc (Nat.le_refl _) _
  have hT : Touched c (c + 1) w (w1.alloc (.cells #[.slice a n cap] 29)) := ((Touched.ofBelow HB0.out).trans ht1).under hst (by omega)
  have hX : BoxAt (w1.alloc (.cells #[.slice a n cap] 29)) w.heap.size (.slice none 0 0) := (HBX0.out.touched ht1 (by omega) (by simp)).keep hst
  obtain ⟨g, cap', eg, hBg, hgs, hcell1⟩ := ho1.place (by rw [maskL_len]; omega)
  clear hcell1
  rw [maskL_len] at eg
  simp only [Value.slice.injEq, true_and] at eg
  obtain ⟨rfl, rfl⟩ := eg
  have HO2 := Lib.hid (ho1.keep hst)
  have HBT2 := Lib.hid (BoxT.new w1 (.slice (some ⟨g, 0, none⟩) n cap) 29)
  have HC2 := Lib.hid (hc1.keepB hst hc1.lt)
  have HT2 := Lib.hid hT
  have HX2 := Lib.hid hX
  clear ho1 hc1 ht1 hst hT hX HC0 HBY0 HB0 HBX0
  go_wp2_with fail
  refine (l1Once_any c nb bv _ _ HC2.out (HT2.out.bytes HBY.out (Nat.le_of_lt hcw)) (by unfold I64; omega)).mono ?_
  rintro e w3 ⟨b3, rfl, hc3, ho3⟩
  have HO3 := Lib.hid (HO2.out.touched (ho3.touched (Nat.le_refl _) (Nat.lt_succ_self c)) (by omega))
  have HBT3 := Lib.hid (HBT2.out.only ho3 (by omega))
  have HC3 := Lib.hid hc3
  have HT3 := Lib.hid (HT2.out.only ho3)
  have HX3 := Lib.hid (HX2.out.only ho3 (by omega))
  clear hc3 ho3 HO2 HBT2 HC2 HT2 HX2
  cases b3 with
  | false =>
    have hmid : MidG w c bv nb w1.heap.size w3 := ⟨_, n, _, cap, HBT3.out, HO3.out, HX3.out, HC3.out, HT3.out, by omega⟩
    obtain ⟨n8, a8, cap8, kb8, k08, f08, q08, hp8⟩ := hmid.done hcw
    have HP := Lib.hid hp8
    have HQ := Lib.hid q08
    clear hmid hp8 q08
    go_wp2
    exact bodyPost_ret (v := .agg #[.slice a8 n8 cap8]) (by simp [results, Tryd.results94, go_sem, HQ.out]) rfl HP.out
  | true =>
    have kb3 := HBT3.out.box.1
    go_wp2_with fail
    refine (l1Below_any c nb bv _ _ HC3.out (HT3.out.bytes HBY.out (Nat.le_of_lt hcw)) (by unfold I64; omega)).mono ?_
    rintro e w4 ⟨y, rfl, hy, hc4, ho4⟩
    have hy' := hy.2 (by omega)
    obtain ⟨v, rfl⟩ : ∃ v : Nat, y = (v : Int) := ⟨y.toNat, by omega⟩
    have hv : v < n := by omega
    have HO4 := Lib.hid (HO3.out.touched (ho4.touched (Nat.le_refl _) (Nat.lt_succ_self c)) (by omega))
    have HBT4 := Lib.hid (HBT3.out.only ho4 (by omega))
    have HC4 := Lib.hid hc4
    have HT4 := Lib.hid (HT3.out.only ho4)
    have HX4 := Lib.hid (HX3.out.only ho4 (by omega))
    clear hc4 ho4 HO3 HBT3 HC3 HT3 HX3 hy hy' kb3
    go_wp2_with fail
    refine (l1Below_any c nb bv _ _ HC4.out (HT4.out.bytes HBY.out (Nat.le_of_lt hcw)) (by unfold I64; omega)).mono ?_
    rintro e w5 ⟨z, rfl, hz, hc5, ho5⟩
    have hz' := hz.2 (by omega)
    have HO5 := Lib.hid (HO4.out.touched (ho5.touched (Nat.le_refl _) (Nat.lt_succ_self c)) (by omega))
    have HBT5 := Lib.hid (HBT4.out.only ho5 (by omega))
    have HC5 := Lib.hid hc5
    have HT5 := Lib.hid (HT4.out.only ho5)
    have HX5 := Lib.hid (HX4.out.only ho5 (by omega))
    clear hc5 ho5 HO4 HBT4 HC4 HT4 HX4 hz
    obtain ⟨g', cap', eg, _, hgs5, hcell5⟩ := HO5.out.place (by rw [maskL_len]; omega)
    simp only [maskL_len, Value.slice.injEq, Option.some.injEq, Addr.mk.injEq, and_true, true_and] at eg
    obtain ⟨rfl, rfl⟩ := eg
    obtain ⟨ar, nr, cr, kr, fr, hor⟩ := hcell5 v (by rw [maskL_len]; exact hv)
    have kb5 := HBT5.out.box.1
    have kf5 := HBT5.out.box.2
    have HKR := Lib.hid kr
    have HFR := Lib.hid fr
    have HOR := Lib.hid hor
    have hmid5 : MidG w c bv nb w1.heap.size w5 := ⟨_, n, _, cap, HBT5.out, HO5.out, HX5.out, HC5.out, HT5.out, by omega⟩
    have HM5 := Lib.hid hmid5
    clear hcell5 hor hmid5
    have hvn : (v : Int) < (n : Int) := by omega
    by_cases e0 : z = 0
    · subst e0
      obtain ⟨xs, hxs⟩ : ∃ xs, xs = nthR (maskL n M) v := ⟨_, rfl⟩
      have hxl : xs.length ≤ 16 := by rw [hxs, maskL_nth M hv]; exact listM_len _
      rw [← hxs] at HOR
      have hws5 : w1.heap.size < w5.heap.size := HBT5.out.lt
      clear hxs
      have HC3 : Hid (xs.length + 1 ≤ maxLen) := by show _ ≤ _; unfold maxLen; omega
      have HC4 : Hid ((xs.length + 1) * 8 ≤ 140737488355328) := by show _ ≤ _; omega
      go_wp2_with fail
      go_region_law (first
        | (go_simp; go_at_call 133; refine (l1Num_any c nb bv 16 _ (HC5.out.keepB (Below.refl _ _).drew HC5.out.lt) ((HT5.out.bytes HBY.out (Nat.le_of_lt hcw)).keepB (Below.refl w5.heap.size _).drew (Nat.le_of_lt HC5.out.lt)) (by omega)).mono ?_; rintro e w6 ⟨x6, rfl, hx6, hc6, ht6⟩; have ht6' : Touched c (c + 1) w5 w6 := (Touched.ofBelow (Below.refl _ _).drew).trans ht6; have HT6 := Lib.hid (HT5.out.trans ht6'); have HC6 := Lib.hid hc6; have HX6x := Lib.hid hx6; have HX6 := Lib.hid (HX5.out.touched ht6' (by omega) (by omega)); have HO6 := Lib.hid (HO5.out.touched ht6' (by omega)); have HOR6 := Lib.hid (HOR.out.touched ht6' (by omega)); have hb6 : w6.heap[w1.heap.size]? = w5.heap[w1.heap.size]? := ht6'.other _ hws5 (by omega); have hg6 : w6.heap[g]? = w5.heap[g]? := ht6'.other _ hgs5 (by omega); have HBT6 : Hid (BoxT 29 w6 w1.heap.size (.slice (some ⟨g, 0, none⟩) n cap)) := (by unfold Hid BoxT; rw [hb6]; exact HBT5.out); have kb6 := HBT6.out.box.1; have kr6 : w6.cell? ⟨g, v, none⟩ = some (.slice ar nr cr) := (World.cell?_of_block (w := w5) hg6).trans HKR.out; have fr6 : w6.frozen? ⟨g, v, none⟩ = false := (World.frozen?_of_block (w := w5) hg6).trans HFR.out; have HKR6 := Lib.hid kr6; have HFR6 := Lib.hid fr6; have hws6 : w1.heap.size < w6.heap.size := HBT6.out.lt; have hgs6 : g < w6.heap.size := Nat.lt_of_lt_of_le hgs5 ht6'.size; have HC5z : Hid (∀ o, w.heap.size + 1 ≤ (w6.alloc o).heap.size) := (fun o => (by rw [size_alloc1]; omega)); clear hx6 hc6 ht6 ht6' hb6 hg6)
        | (refine step_append_lies _ (by rfl) (.tmp 25) (.tmp 28) 36 (by rfl) (w.heap.size + 1) 2 i0 (.int .i64 0) 1 8 Tryd.underlying36 hi hz0 hz1 hz2 rfl (by omega) (.slice ar nr cr) xs.length (xs.map (Value.int .i64)) (by rfl) (HOR6.out.owns.alloc _) ⟨w6.heap.size, 0, none⟩ 1 1 [.int .i64 x6] (by rfl) rfl (World.news_of_block (heap_alloc_new _ _)) (ints_one [x6]) Nat.one_pos HC3.out HC4.out (HC5z.out _) (w6.heap.size + 1) (size_alloc1 _ _) ?_; intro g7 cap7 w7 hown7 hgrow7 hat7 hlt7; obtain ⟨kb7, kr7, fr7, hm7⟩ := MidG.grow HBT6.out HO6.out HX6.out HC6.out HT6.out hcw (by rw [maskL_len]; exact hv) HKR6.out HFR6.out HOR6.out HX6x.out (by omega) hown7 hgrow7 hat7 (by omega); have HM6 := Lib.hid hm7; clear hown7 hgrow7 hat7 hlt7 hm7))
      all_goals (
        go_upto_region 15 with fail
        generalize (w7.setCell ⟨g, v, none⟩ (.slice (some ⟨g7, 0, none⟩) (xs.length + 1) cap7)) = W8 at HM6 ⊢
        obtain ⟨n8, a8, cap8, kb8, k08, f08, q08, hp8⟩ := HM6.out.done hcw
        have HP := Lib.hid hp8
        have HQ := Lib.hid q08
        clear hp8 q08 kb5 kf5 kr fr kb6 kr6 fr6 kb7 kr7 fr7
        go_wp2
        exact bodyPost_ret (v := .agg #[.slice a8 n8 cap8]) (by simp [results, Tryd.results94, go_sem, HQ.out]) rfl HP.out)
    · have d0 : (z == 0) = false := by rw [beq_eq_false_iff_ne]; exact e0
      by_cases e1 : z = 1
      · subst e1
        have hbel : Below w5.heap.size w5 (w5.alloc (.cells #[.int .i64 (v : Int)] 2)) := (Below.refl _ _).alloc (Nat.le_refl _) _
        have hm6 : MidG w c bv nb w1.heap.size ((w5.alloc (.cells #[.int .i64 (v : Int)] 2)).setCell ⟨g, v, none⟩ (.slice (some ⟨w5.heap.size, 0, none⟩) 1 1)) := MidG.row HBT5.out HO5.out HX5.out HC5.out HT5.out hcw (by omega) hbel (by rw [maskL_len]; exact hv) (own_one (by unfold I64; omega)) (by omega)
        rw [World.setCell_alloc_past _ _ _ _ hgs5] at hm6
        have HM6 := Lib.hid hm6
        clear hbel hm6
        go_upto_region 15 with fail
        generalize ((w5.setCell ⟨g, v, none⟩ (.slice (some ⟨w5.heap.size, 0, none⟩) 1 1)).alloc (.cells #[.int .i64 (v : Int)] 2)) = W8 at HM6 ⊢
        obtain ⟨n8, a8, cap8, kb8, k08, f08, q08, hp8⟩ := HM6.out.done hcw
        have HP := Lib.hid hp8
        have HQ := Lib.hid q08
        clear hp8 q08 kb5 kf5 kr fr
        go_wp2
        exact bodyPost_ret (v := .agg #[.slice a8 n8 cap8]) (by simp [results, Tryd.results94, go_sem, HQ.out]) rfl HP.out
      · have d1 : (z == 1) = false := by rw [beq_eq_false_iff_ne]; exact e1
        by_cases e2 : z = 2
        · subst e2
          go_wp2_with fail
          refine (l1Below_any c nb bv _ _ HC5.out (HT5.out.bytes HBY.out (Nat.le_of_lt hcw)) (by unfold I64; omega)).mono ?_
          rintro e w6 ⟨t, rfl, ht, hc6, ho6⟩
          have ht' := ht.2 (by omega)
          obtain ⟨t', rfl⟩ : ∃ t' : Nat, t = (t' : Int) := ⟨t.toNat, by omega⟩
          have ht2 : t' < 2 := by omega
          have HMo := Lib.hid (HM5.out.only hcw (by omega) ho6 hc6)
          have hsz6 : w5.heap.size = w6.heap.size := ho6.size.symm
          clear ht ht' hc6 ho6
          have hem := l1Empty_any (16 + t') w6 (by omega)
          have e16 : ((16 + t' : Nat) : Int) = 16 + (t' : Int) := by omega
          rw [e16] at hem
          have HEM := Lib.hid hem
          clear hem e16
          go_wp2_with fail
          refine HEM.out.mono ?_
          rintro e w7 ⟨n7, a7, c7, rfl, ho7, hb7⟩
          have hbt := HBT5.out.lt
          have hn7 : n7 ≤ 17 := by
            obtain ⟨a5, c5, e5⟩ := ho7.grid.slice
            simp only [Value.slice.injEq] at e5
            rw [e5.2.1, List.length_replicate]
            omega
          obtain ⟨kf7, ⟨u7, kb7⟩, hm7⟩ := HMo.out.put hcw (by omega) hb7 (ho7.mono (by omega)) hn7
          have HM6 := Lib.hid hm7
          clear ho7 hb7 hm7 hbt hn7
          go_upto_region 15 with fail
          generalize (w7.setCell ⟨w1.heap.size, 0, none⟩ (.slice a7 n7 c7)) = W8 at HM6 ⊢
          obtain ⟨n8, a8, cap8, kb8, k08, f08, q08, hp8⟩ := HM6.out.done hcw
          have HP := Lib.hid hp8
          have HQ := Lib.hid q08
          clear hp8 q08 kb5 kf5 kr fr
          go_wp2
          exact bodyPost_ret (v := .agg #[.slice a8 n8 cap8]) (by simp [results, Tryd.results94, go_sem, HQ.out]) rfl HP.out
        · have d2 : (z == 2) = false := by rw [beq_eq_false_iff_ne]; exact e2
          by_cases e3 : z = 3
          · subst e3
            obtain ⟨_, _, hm6⟩ := HM5.out.put hcw (by omega) (Below.refl _ _) (own_nil w5 (w.heap.size + 1)) (by omega)
            have HM6 := Lib.hid hm6
            clear hm6
            go_upto_region 15 with fail
            generalize (w5.setCell ⟨w1.heap.size, 0, none⟩ (.slice none 0 0)) = W8 at HM6 ⊢
            obtain ⟨n8, a8, cap8, kb8, k08, f08, q08, hp8⟩ := HM6.out.done hcw
            have HP := Lib.hid hp8
            have HQ := Lib.hid q08
            clear hp8 q08 kb5 kf5 kr fr
            go_wp2
            exact bodyPost_ret (v := .agg #[.slice a8 n8 cap8]) (by simp [results, Tryd.results94, go_sem, HQ.out]) rfl HP.out
          · have d3 : (z == 3) = false := by rw [beq_eq_false_iff_ne]; exact e3
            obtain rfl : z = 4 := by omega
            have hbel : Below w5.heap.size w5 (w5.alloc (.cells #[] 2)) := (Below.refl _ _).alloc (Nat.le_refl _) _
            have hm6 : MidG w c bv nb w1.heap.size ((w5.alloc (.cells #[] 2)).setCell ⟨g, v, none⟩ (.slice (some ⟨w5.heap.size, 0, none⟩) 0 0)) := MidG.row HBT5.out HO5.out HX5.out HC5.out HT5.out hcw (by omega) hbel (by rw [maskL_len]; exact hv) (own_empty w5) (by omega)
            rw [World.setCell_alloc_past _ _ _ _ hgs5] at hm6
            have HM6 := Lib.hid hm6
            clear hbel hm6
            go_upto_region 15 with fail
            generalize ((w5.setCell ⟨g, v, none⟩ (.slice (some ⟨w5.heap.size, 0, none⟩) 0 0)).alloc (.cells #[] 2)) = W8 at HM6 ⊢
            obtain ⟨n8, a8, cap8, kb8, k08, f08, q08, hp8⟩ := HM6.out.done hcw
            have HP := Lib.hid hp8
            have HQ := Lib.hid q08
            clear hp8 q08 kb5 kf5 kr fr
            go_wp2
            exact bodyPost_ret (v := .agg #[.slice a8 n8 cap8]) (by simp [results, Tryd.results94, go_sem, HQ.out]) rfl HP.out

end Go.Proofs.YtjbfoiolcpigfaaDoor

/- Walks: a new cursor; DrawEdgesOf; the size test of a code. -/
namespace Go.Proofs.YtjbfoiolcpigfaaDoor
open Go.RowKit

theorem big_any (a : Option Addr) (n cap : Nat) (w : World) : Calls Tryd.prog 15 #[.slice a n cap] w fun e w' => e = .returned (.bool (decide ((4096 : Int) < (n : Int)))) ∧ w = w' := by
  go_enter Tryd.func15, Tryd.ntmps15
  go_wp2
  go_ret
  exact ⟨rfl, rfl⟩

set_option maxHeartbeats 1600000 in
theorem l1New_any (n : Nat) (bv : Value) (w : World) (hb : BytesAt w w.heap.size bv n) : Calls Tryd.prog 93 #[bv] w fun e w' => e = .returned (.pointer (some ⟨w.heap.size, 0, none⟩)) ∧ CurAt w' w.heap.size bv n ∧ Below w.heap.size w w' := by
  obtain ⟨hn, a, cap, rfl, hbs⟩ := hb
  have HBS := Lib.hid hbs
  clear hbs
  go_enter Tryd.func93, Tryd.ntmps93
  go_wp2
  go_loop [3, 4] (fun h i => ∃ (k : Nat) (x : Int), k ≤ n ∧ i = .int .i64 k ∧ h = .int .i64 x) (fun _ i => n - (intOf i).toNat)
  case atStart => exact ⟨0, _, Nat.zero_le _, rfl, rfl⟩
  case round =>
    obtain ⟨k, x, hk, rfl, rfl⟩ := hrel
    by_cases hlt : k < n
    · obtain ⟨b, o, rfl, hbc, hcs⟩ := HBS.out (by omega)
      obtain ⟨y, hy, hcy⟩ := hcs k hlt
      clear hcs
      go_wp2
      go_round
      case rel => exact ⟨k + 1, _, by omega, by go_num, rfl⟩
      case measure => simp [intOf]; omega
    · obtain rfl : k = n := by omega
      go_wp2
      go_ret
      exact ⟨rfl, ⟨0, x, Nat.zero_le _, heap_alloc_new _ _⟩, (Below.refl _ _).alloc (Nat.le_refl _) _⟩

end Go.Proofs.YtjbfoiolcpigfaaDoor

/- Walks: DrawEdgesOf. -/
namespace Go.Proofs.YtjbfoiolcpigfaaDoor
open Go.RowKit

theorem BytesAt.wide {w : World} {c c' n : Nat} {bv : Value} (h : BytesAt w c bv n) (hc : c ≤ c') : BytesAt w c' bv n := by
  obtain ⟨h1, a, cap, e, h2⟩ := h
  refine ⟨h1, a, cap, e, fun hn => ?_⟩
  obtain ⟨b, o, ea, hb, hcs⟩ := h2 hn
  exact ⟨b, o, ea, by omega, hcs⟩

/-- A call has handed back some graph of its own make, and has turned nothing that was there. -/
def GaveSome (w : World) (e : Ending) (w' : World) : Prop := ∃ L, GaveGraph w L e w'

end Go.Proofs.YtjbfoiolcpigfaaDoor

/- Walks: what is in one of both; a graph drawn. -/
namespace Go.Proofs.YtjbfoiolcpigfaaDoor
open Go.RowKit

theorem bothM_bit (xs ys : List Int) (k : Nat) (hk : k < 16) : (bothM xs ys).testBit k = (hasB xs (k : Int) || hasB ys (k : Int)) := by
  unfold bothM
  rw [pm_bit, decide_eq_true hk]
  rfl

theorem lit_one (w : World) (x : Int) (T : TypeId) : ∀ j u, ([Value.int .i64 x] : List Value)[j]? = some u → (w.alloc (.cells #[.int .i64 x] T)).cell? ((⟨w.heap.size, 0, none⟩ : Addr).add j) = some u := by
  intro j u hj
  match j, hj with
  | 0, hj => simp at hj; subst hj; simp [Addr.add]
theorem one_one (x : Int) : ∀ u ∈ ([Value.int .i64 x] : List Value), u.oneCell' = true := by
  intro u hu; simp at hu; subst hu; rfl

set_option maxHeartbeats 4000000 in
set_option maxRecDepth 100000 in
theorem w5Both_any (v v1 : Value) (xs ys : List Int) (w : World) (h : RowAt w v xs) (h1 : RowAt w v1 ys) (hl0 : xs.length ≤ 1000) (hl1 : ys.length ≤ 1000) : Calls Tryd.prog 41 #[v, v1] w (GaveRow w (bothL xs ys)) := by
  obtain ⟨i0, hi, hz0, hz1, hz2⟩ := info_parts Tryd.infoI
  obtain ⟨a0, c0, rfl⟩ := h.slice
  obtain ⟨a1, c1, rfl⟩ := h1.slice
  have HR0 := Lib.hid h
  have HR1 := Lib.hid h1
  have hown0 : (w.alloc (.cells #[] 2)).ownsRow w.heap.size 2 1 (.slice (some ⟨w.heap.size, 0, none⟩) 0 0) 0 [] := World.ownsRow_lit w #[] 0 (Nat.le_refl _) (Nat.zero_le _) rfl
  have HO0 := Lib.hid hown0
  clear h h1 hown0
  go_enter Tryd.func41, Tryd.ntmps41
  go_wp2_with fail
  go_loopw [5, 6] (fun s i wr => ∃ k : Nat, k ≤ 16 ∧ i = .int .i64 k ∧ OwnRow 2 wr w.heap.size s (listTo (bothM xs ys) k) ∧ Below w.heap.size w wr) (fun _ i _ => 16 - (intOf i).toNat)
  case atStart => exact ⟨0, Nat.zero_le _, rfl, OwnRow.of_ownsRow (n := 0) (xs := []) HO0.out (Nat.zero_le _) (fun x hx => absurd hx (by simp)), (Below.refl _ _).alloc (Nat.le_refl _) _⟩
  case round =>
    obtain ⟨k, hk, rfl, ho, hb⟩ := hrel
    have hpl := listTo_len (bothM xs ys) k
    obtain ⟨a3, c3, e3⟩ := ho.row.slice
    subst e3
    have HO := Lib.hid ho
    have HB := Lib.hid hb
    have hz3 : w.heap.size ≤ wr.heap.size := hb.size
    have HX := Lib.hid (HR0.out.keep hb)
    have HY := Lib.hid (HR1.out.keep hb)
    have HLS := Lib.hid (listTo_succ (bothM xs ys) k)
    clear ho hb
    by_cases hlt : k < 16
    · have HBT := Lib.hid (bothM_bit xs ys k hlt)
      go_wp2_with fail
      go_loop [5, 7] (fun s i => ∃ q : Nat, q ≤ xs.length + ys.length ∧ s = .slice a3 (listTo (bothM xs ys) k).length c3 ∧ i = .int .i64 q ∧ ∀ j, j < q → (j < xs.length → nth xs j ≠ (k : Int)) ∧ (xs.length ≤ j → nth ys (j - xs.length) ≠ (k : Int))) (fun _ i => xs.length + ys.length - (intOf i).toNat)
      case atStart => exact ⟨0, Nat.zero_le _, rfl, rfl, fun j hj => absurd hj (by omega)⟩
      case round =>
        obtain ⟨q, hq, rfl, rfl, hnot⟩ := hrel
        have HNOT := Lib.hid hnot
        clear hnot
        by_cases hql : q < xs.length + ys.length
        · by_cases hqx : q < xs.length
          · obtain ⟨b, o, c, e1, l1, l2, hc⟩ := HX.out.pos (by omega)
            simp only [Value.slice.injEq, true_and] at e1
            obtain ⟨rfl, rfl⟩ := e1
            have hcq := hc q hqx
            clear hc
            by_cases hit : nth xs q = (k : Int)
            · rw [hit] at hcq
              have HPE : Hid (listTo (bothM xs ys) (k + 1) = listTo (bothM xs ys) k ++ [(k : Int)]) := by
                show _ = _
                rw [HLS.out, HBT.out, (hasB_iff _ _).2 ⟨q, hqx, hit⟩]
                rfl
              clear hit
              go_wp2_with (at_builtin; refine wpList_append_own _ rfl (.tmp 51) (.tmp 53) 36 rfl w.heap.size 2 i0 (.int .i64 0) 1 8 Tryd.underlying36 hi hz0 hz1 hz2 rfl (by decide) _ _ _ rfl (HO.out.owns.alloc _) ⟨wr.heap.size, 0, none⟩ 1 1 [.int .i64 (k : Int)] rfl rfl (lit_one _ _ _) (one_one _) (by unfold maxLen; omega) (by omega) (by simp; omega) ?_)
              intro v4 w4 hown4 hgrow4 _
              have hb4 : Below w.heap.size w w4 := (HB.out.alloc hz3 _).grown hgrow4 (by simp; omega) (fun j hj => (HO.out.lt j hj).1)
              have HO4 : Hid (OwnRow 2 w4 w.heap.size v4 (listTo (bothM xs ys) (k + 1))) := OwnRow.of_ownsRow (n := (listTo (bothM xs ys) k).length + 1) (by rw [HPE.out]; simpa using hown4) (by rw [HPE.out]; simp; unfold maxLen; omega) (fun x hx => by
                rw [HPE.out] at hx
                rcases List.mem_append.1 hx with hx | hx
                · exact HO.out.1 x hx
                · simp at hx; subst hx; unfold I64; omega)
              have HB4 := Lib.hid hb4
              clear hown4 hgrow4 hb4
              go_wp2
              go_roundw
              case rel => exact ⟨k + 1, by omega, by go_num, HO4.out, HB4.out⟩
              case measure => simp [intOf]; omega
            · have hne : (nth xs q == (k : Int)) = false := by rw [beq_eq_false_iff_ne]; exact hit
              have hge : ¬ (xs.length ≤ q) := by omega
              have HH := Lib.hid hit
              clear hit
              go_wp2
              go_round
              case rel =>
                refine ⟨q + 1, by omega, rfl, by go_num, fun j hj => ?_⟩
                rcases Nat.lt_succ_iff_lt_or_eq.1 hj with h' | rfl
                · exact HNOT.out j h'
                · exact ⟨fun _ => HH.out, fun h => absurd h (by omega)⟩
              case measure => simp [intOf]; omega
          · obtain ⟨p, rfl⟩ : ∃ p, q = xs.length + p := ⟨q - xs.length, by omega⟩
            have hpl2 : p < ys.length := by omega
            obtain ⟨b, o, c, e1, l1, l2, hc⟩ := HY.out.pos (by omega)
            simp only [Value.slice.injEq, true_and] at e1
            obtain ⟨rfl, rfl⟩ := e1
            have hcq := hc p hpl2
            clear hc
            by_cases hit : nth ys p = (k : Int)
            · rw [hit] at hcq
              have HPE : Hid (listTo (bothM xs ys) (k + 1) = listTo (bothM xs ys) k ++ [(k : Int)]) := by
                show _ = _
                rw [HLS.out, HBT.out, (hasB_iff ys _).2 ⟨p, hpl2, hit⟩, Bool.or_true]
                rfl
              clear hit
              go_wp2_with (at_builtin; refine wpList_append_own _ rfl (.tmp 51) (.tmp 53) 36 rfl w.heap.size 2 i0 (.int .i64 0) 1 8 Tryd.underlying36 hi hz0 hz1 hz2 rfl (by decide) _ _ _ rfl (HO.out.owns.alloc _) ⟨wr.heap.size, 0, none⟩ 1 1 [.int .i64 (k : Int)] rfl rfl (lit_one _ _ _) (one_one _) (by unfold maxLen; omega) (by omega) (by simp; omega) ?_)
              intro v4 w4 hown4 hgrow4 _
              have hb4 : Below w.heap.size w w4 := (HB.out.alloc hz3 _).grown hgrow4 (by simp; omega) (fun j hj => (HO.out.lt j hj).1)
              have HO4 : Hid (OwnRow 2 w4 w.heap.size v4 (listTo (bothM xs ys) (k + 1))) := OwnRow.of_ownsRow (n := (listTo (bothM xs ys) k).length + 1) (by rw [HPE.out]; simpa using hown4) (by rw [HPE.out]; simp; unfold maxLen; omega) (fun x hx => by
                rw [HPE.out] at hx
                rcases List.mem_append.1 hx with hx | hx
                · exact HO.out.1 x hx
                · simp at hx; subst hx; unfold I64; omega)
              have HB4 := Lib.hid hb4
              clear hown4 hgrow4 hb4
              go_wp2
              go_roundw
              case rel => exact ⟨k + 1, by omega, by go_num, HO4.out, HB4.out⟩
              case measure => simp [intOf]; omega
            · have hne : (nth ys p == (k : Int)) = false := by rw [beq_eq_false_iff_ne]; exact hit
              have HH := Lib.hid hit
              clear hit
              go_wp2
              go_round
              case rel =>
                refine ⟨xs.length + p + 1, by omega, by omega, fun j hj => ?_⟩
                rcases Nat.lt_succ_iff_lt_or_eq.1 hj with h' | rfl
                · exact HNOT.out j h'
                · exact ⟨fun h => absurd h (by omega), fun _ => by rw [Nat.add_sub_cancel_left]; exact HH.out⟩
              case measure => simp [intOf]; omega
        · obtain rfl : q = xs.length + ys.length := by omega
          have HPE : Hid (listTo (bothM xs ys) (k + 1) = listTo (bothM xs ys) k) := by
            show _ = _
            have h1 : hasB xs (k : Int) = false := by
              rw [← Bool.not_eq_true, hasB_iff]
              rintro ⟨i, hi, e⟩
              exact (HNOT.out i (by omega)).1 hi e
            have h2 : hasB ys (k : Int) = false := by
              rw [← Bool.not_eq_true, hasB_iff]
              rintro ⟨i, hi, e⟩
              exact (HNOT.out (xs.length + i) (by omega)).2 (by omega) (by rw [Nat.add_sub_cancel_left]; exact e)
            rw [HLS.out, HBT.out, h1, h2]
            simp
          go_wp2
          go_roundw
          case rel => exact ⟨k + 1, by omega, by go_num, by rw [HPE.out]; exact HO.out, HB.out⟩
          case measure => simp [intOf]; omega
    · obtain rfl : k = 16 := by omega
      have HF : Hid (GaveRow w (bothL xs ys) (.returned (.slice a3 (listTo (bothM xs ys) 16).length c3)) wr) := ⟨_, _, _, rfl, HO.out, HB.out⟩
      go_wp2
      go_ret
      exact HF.out

theorem drawPartsOf_any (n : Nat) (bv : Value) (w : World) (hb : BytesAt w w.heap.size bv n) : Calls Tryd.prog 38 #[bv] w (GaveSome w) := by
  have hb0 : Below w.heap.size w (w.alloc (.cells #[.slice none 0 0] 29)) := (Below.refl _ _).alloc (Nat.le_refl _) _
  have hbx0 : BoxAt (w.alloc (.cells #[.slice none 0 0] 29)) w.heap.size (.slice none 0 0) := BoxAt.new _ _ _
  have hby0 : BytesAt (w.alloc (.cells #[.slice none 0 0] 29)) (w.alloc (.cells #[.slice none 0 0] 29)).heap.size bv n := (hb.keepB hb0 (Nat.le_refl _)).wide (by simp)
  have HB0 := Lib.hid hb0
  have HBX0 := Lib.hid hbx0
  have HBY0 := Lib.hid hby0
  clear hb hb0 hbx0 hby0
  go_enter Tryd.func38, Tryd.ntmps38
  go_wp2_with fail
  refine (l1New_any n bv _ HBY0.out).mono ?_
  rintro e w1 ⟨rfl, hc1, hb1⟩
  have HB1 : Hid (Below w.heap.size w w1) := HB0.out.trans (hb1.mono HB0.out.size)
  have HX1 : Hid (BoxAt w1 w.heap.size (.slice none 0 0)) := HBX0.out.keep hb1
  have HY1 := Lib.hid (HBY0.out.keepB hb1 (Nat.le_refl _))
  rw [size_alloc1] at hc1 HY1
  have HC1 := Lib.hid hc1
  have hs1 := hc1.lt
  clear hc1 hb1 HBY0
  go_wp2_with fail
  refine (l1DrawAny_any (w.heap.size + 1) n bv w1 HC1.out HY1.out).mono ?_
  rintro e w2 ⟨L, m, a, cap, rfl, ho2, hc2, ht2, -⟩
  have hx2 := HX1.out.touched ht2 (by omega) (by omega)
  have kx := hx2.1
  have fx := hx2.2
  have HQ := Lib.hid (cell_set_same (.slice a m cap) hx2.1)
  have HO := Lib.hid ho2
  have HB2 : Hid (Below w.heap.size w w2) := HB1.out.trans ((ht2.below (by omega)).mono (by omega))
  clear hx2 ho2 hc2 ht2
  go_wp2
  refine bodyPost_ret (v := .agg #[.slice a m cap]) (by simp [results, Tryd.results38, go_sem, HQ.out]) rfl ⟨L, m, a, cap, rfl, ?_, HB2.out.setCell (Nat.le_refl _) _⟩
  exact (HO.out.setBelow (by simp; omega) _).mono (by omega)

end Go.Proofs.YtjbfoiolcpigfaaDoor

/- Walks: PartsOf, of the program. -/
namespace Go.Proofs.YtjbfoiolcpigfaaDoor
open Go.RowKit Go.Shelf
attribute [local go_sem] Oper.semAt_some

theorem OwnRow.kept {T : TypeId} {w w' : World} {B : Nat} {v : Value} {xs : List Int} (h : OwnRow T w B v xs) (hk : ∀ (k : Nat) (cs : Array Value) (fr : Nat × Nat), w.heap[k]? = some (Obj.cells cs T fr) → w'.heap[k]? = some (Obj.cells cs T fr)) : OwnRow T w' B v xs := by
  obtain ⟨h1, h2, h3⟩ := h
  refine ⟨h1, h2, ?_⟩
  rcases h3 with h3 | ⟨g, cap, cur, e, hg, hh, r⟩
  · exact Or.inl h3
  · exact Or.inr ⟨g, cap, cur, e, hg, hk _ _ _ hh, r⟩
theorem OwnGrid.kept {T T1 : TypeId} {w w' : World} {B : Nat} {v : Value} {L : List (List Int)} (h : OwnGrid T T1 w B v L) (hk : ∀ (k : Nat) (cs : Array Value) (U : TypeId) (fr : Nat × Nat), U = T ∨ U = T1 → w.heap[k]? = some (Obj.cells cs U fr) → w'.heap[k]? = some (Obj.cells cs U fr)) : OwnGrid T T1 w' B v L := by
  obtain ⟨R, h2, h3, h4, h5⟩ := h
  refine ⟨R, h2, ?_, fun i hi => (h4 i hi).kept (fun k cs fr h => hk k cs T fr (.inl rfl) h), h5⟩
  rcases h3 with h3 | ⟨g, cap, cur, e, hg, hh, r⟩
  · exact Or.inl h3
  · exact Or.inr ⟨g, cap, cur, e, hg, hk _ _ _ _ (.inr rfl) hh, r⟩

/-- The program's list of parts, half done. -/
def PI (w : World) (bx B bn : Nat) (L : List (List Int)) (W : World) : Prop :=
  W.heap[bx + 1]? = some (.cells #[.pointer (some ⟨bn, 0, none⟩)] 113 (0, 0)) ∧ (∃ val, W.heap[bx]? = some (.cells #[val] 27 (0, 0)) ∧ OwnGrid 2 36 W B val L) ∧ Below w.heap.size w W
theorem PI.own {β : Type} (w : World) (bx B bn C : Nat) (f : β → List (List Int)) (hC : w.heap.size ≤ C) : OwnFrom C (fun s W => PI w bx B bn (f s) W) := by
  rintro s W W' row ⟨hpt, ⟨val, hb, hg⟩, hbel⟩ hgr hr
  have hk : ∀ (k : Nat) (cs : Array Value) (U : TypeId) (fr : Nat × Nat), W.heap[k]? = some (Obj.cells cs U fr) → W'.heap[k]? = some (Obj.cells cs U fr) := fun k cs U fr h => by
    refine (hgr.block k (Array.getElem?_eq_some_iff.1 h).1 ?_).trans h
    intro e
    obtain ⟨_, o, ho, hc⟩ := hr k e.symm
    rw [h] at ho; cases ho; simp [Obj.isCells] at hc
  refine ⟨hk _ _ _ _ hpt, ⟨val, hk _ _ _ _ hb, hg.kept (fun k cs U fr _ h => hk k cs U fr h)⟩, ?_⟩
  exact hbel.trans ⟨hgr.os, hgr.tape, hgr.output, hgr.size, fun k hk' => hgr.block k (by have := hbel.size; omega) (fun e => by have := (hr k e.symm).1; omega)⟩

section
variable {F : Fence} {n : Nat} {P : Program} {ops : Array Oper} {Q : Exit → Act → World → Prop}
theorem anyIn_one {fuel : Nat} {listed : Array Bool} {a : Act} {w : World} (i : Nat) (hr : Region.ready .any ops listed = [i]) (h : wpOpIn F n P ops Q i (wpAnyIn F n P .any ops Q fuel (listed.setIfInBounds i true)) a w) : wpAnyIn F n P .any ops Q (fuel + 1) listed a w := by
  refine ⟨fun h0 => (by rw [hr] at h0; cases h0), fun k hk => ?_⟩
  rw [hr] at hk
  simp at hk
  subst hk
  exact h
theorem anyIn_two {fuel : Nat} {listed : Array Bool} {a : Act} {w : World} (i j : Nat) (hr : Region.ready .any ops listed = [i, j]) (h : wpOpIn F n P ops Q i (wpAnyIn F n P .any ops Q fuel (listed.setIfInBounds i true)) a w)
    (h' : wpOpIn F n P ops Q j (wpAnyIn F n P .any ops Q fuel (listed.setIfInBounds j true)) a w) : wpAnyIn F n P .any ops Q (fuel + 1) listed a w := by
  refine ⟨fun h0 => (by rw [hr] at h0; cases h0), fun k hk => ?_⟩
  rw [hr] at hk
  simp at hk
  rcases hk with rfl | rfl
  · exact h
  · exact h'
theorem opIn_at {i : Nat} {o : Oper} {K : Act → World → Prop} {a : Act} {w : World} (ho : ops[i]? = some o) (hg : o.guard = none) (h : o.wpIn F n P a w K Q) : wpOpIn F n P ops Q i K a w := by
  unfold wpOpIn
  rw [ho]
  have hw : Region.wanted o (yielded ops a.tmps) = true := by simp [Region.wanted, hg]
  simp only [hw, if_true]
  exact h
theorem wpIn_append_own (w : World) {o : Oper} {a : Act} {K : Act → World → Prop} (s x : Operand) (t : TypeId) (hop : o.op = Op.call { callee := Callee.builtin Builtin.append, args := #[s, x], argTypes := #[t, t] })
    (base : Nat) (e : TypeId) (i : TypeInfo) (z : Value) (size bytes : Nat) (h1 : P.underlying t = some (.slice e)) (h2 : P.info? e = some i) (h3 : i.zero = some z) (h4 : i.size = size) (h5 : i.bytes = bytes) (h6 : z.cells.size = size) (h7 : 0 < size)
    (v : Value) (k : Nat) (xs : List Value) (hs : a.eval s = v) (hown : w.ownsRow base e size v k xs) (ad : Addr) (m c : Nat) (news : List Value) (hx : a.eval x = .slice (some ad) m c) (hn : news.length = m * size)
    (hc : ∀ j u, news[j]? = some u → w.cell? (ad.add j) = some u) (h1c : ∀ u ∈ news, u.oneCell' = true) (b1 : k + m ≤ maxLen) (b2 : (k + m) * bytes ≤ 140737488355328) (b3 : base ≤ w.heap.size)
    (hK : ∀ v' w', w'.ownsRow base e size v' (k + m) (xs ++ news) → w.grownBy w' v.ownBlock → K (a.put o.dst v') w') : o.wpIn F n P a w K Q := by
  obtain ⟨v', w', hrun, r1, r2, r3⟩ := run_append_own (P := P) w base t o.type e i z size bytes h1 h2 h3 h4 h5 h6 h7 v k xs hown ad m c news hn hc h1c b1 b2 b3
  unfold Oper.wpIn
  refine ⟨?_, ?_⟩
  · simp [Oper.about, hop, resolve, Target.leads, Sem.run_pure]
  · rw [Oper.semAt_plain F _ _ (by rw [hop]; intro c hc'; cases hc')]
    simp [execOp, hop, resolve, invoke, builtin, hs, hx, hrun, Result.andThen]
    exact hK v' w' r1 r2
end

set_option maxHeartbeats 4000000 in
set_option maxRecDepth 100000 in
theorem implPartsOf_any (v : Value) (L : List (List Int)) (w : World) (h : GridAt w v L) (hT : TabAt w) : Calls Tryd.prog 26 #[.agg #[v]] w (GaveGrid w (partsL L)) := by
  obtain ⟨j0, hj, hy0, hy1, hy2⟩ := info_parts Tryd.infoR
  obtain ⟨a0, c0, rfl⟩ := h.slice
  have ha : Below w.heap.size w (w.alloc (.cells #[.slice a0 L.length c0] 29)) := (Below.refl _ _).alloc (Nat.le_refl _) _
  have hk := h.keep ha
  have HA := Lib.hid ha
  clear ha
  refine calls_marks Tryd.func26 rfl ?_
  simp only [Tryd.ntmps26, List.size_toArray, List.length_cons, List.length_nil, Nat.reduceAdd, Nat.reduceSub, Array.replicate_succ, Array.replicate_zero, List.push_toArray, List.append_toArray, List.nil_append, List.cons_append]
  go_wp2_with fail
  refine (netOf_any _ _ _ hk).mono ?_
  rintro e w1 ⟨rfl, hb1⟩
  have HB1 : Hid (Below w.heap.size w w1) := HA.out.trans (hb1.mono (by simp))
  have hz : w.heap.size ≤ w1.heap.size := HB1.out.size
  have hnb := netBlk_new w1 0 (fun _ => 0)
  clear hb1 hk h HA
  by_cases hG : GraphP L
  · have hzz := hG.1
    have HLT : Hid (∀ i, rowM L i < 65536) := fun i => rowM_lt (by omega) (fun v hv => (hG.2.1 v hv).1) i
    have HNE := Lib.hid (nearM_eq hG)
    have HSY : Hid (∀ a b, nearM (rowM L) a b = nearM (rowM L) b a) := by rw [HNE.out]; exact nearB_symm hG
    have HE : Hid (partsL L = (headsTo (nearM (rowM L)) L.length L.length).map (fun v => listM (compN (nearM (rowM L)) L.length v))) := by
      show _ = _; unfold partsL; rw [if_pos hG, HNE.out, ← headsTo_map, List.map_map]; rfl
    rw [decide_eq_true hG, netArr_yes hG]
    clear hG
    go_wp2_with (first | (refine wpList_store_net rfl 74 (.tmp 3) (.tmp 10) rfl w1.heap.size L.length (rowM L) rfl rfl Tryd.sizeNet 0 (fun _ => 0) hnb ?_; intro w3 hp; have HNet := Lib.hid hp.net.at; have HB3 : Hid (Below w.heap.size w w3) := (HB1.out.alloc hz _).trans (hp.below.mono hz); clear hp) | (go_at_call 78; refine (parts_any _ _).mono ?_; rintro e w' ⟨rfl, rfl⟩))
    have hz3 : w.heap.size ≤ w3.heap.size := HB3.out.size
    obtain ⟨w5, hw5⟩ : ∃ w5, ((w3.alloc (.cells #[] 36)).alloc (.cells #[.slice (some ⟨w3.heap.size, 0, none⟩) 0 0] 27)).alloc (.cells #[.pointer (some ⟨w1.heap.size, 0, none⟩)] 113) = w5 := ⟨_, rfl⟩
    have hb5 : Below w3.heap.size w3 w5 := by rw [← hw5]; exact (((Below.refl _ _).alloc (Nat.le_refl _) _).alloc (by simp) _).alloc (by simp; omega) _
    have hs5 : w5.heap.size = w3.heap.size + 3 := by rw [← hw5]; simp
    have hbx5 : w5.heap[w3.heap.size + 1]? = some (.cells #[.slice (some ⟨w3.heap.size, 0, none⟩) 0 0] 27 (0, 0)) := by
      rw [← hw5]
      have h1 := World.alloc_heap_new (w3.alloc (.cells #[] 36)) (.cells #[.slice (some ⟨w3.heap.size, 0, none⟩) 0 0] 27)
      rw [World.size_alloc] at h1
      exact (Below.heap_alloc _ _ _ (by simp)).trans h1
    have hpt5 : w5.heap[w3.heap.size + 1 + 1]? = some (.cells #[.pointer (some ⟨w1.heap.size, 0, none⟩)] 113 (0, 0)) := by
      rw [← hw5]
      have h1 := World.alloc_heap_new ((w3.alloc (.cells #[] 36)).alloc (.cells #[.slice (some ⟨w3.heap.size, 0, none⟩) 0 0] 27)) (.cells #[.pointer (some ⟨w1.heap.size, 0, none⟩)] 113)
      simpa using h1
    have hog5 : OwnGrid 2 36 w5 w3.heap.size (.slice (some ⟨w3.heap.size, 0, none⟩) 0 0) [] := by
      have h1 := own_none (T := 2) (T1 := 36) w3 w3.heap.size (Nat.le_refl _)
      refine h1.keep ?_
      rw [← hw5]
      exact ((Below.refl _ _).alloc (Nat.le_refl _) _).alloc (by simp) _
    have HPI : Hid (PartIn w5 (w3.heap.size + 2) w1.heap.size L.length (rowM L)) := by
      refine ⟨?_, HNet.out.keep hb5, (hT.keep HB3.out).keep hb5⟩
      subst hw5; go_simp
    have HSQ := Lib.hid (parts1_seq 8 (w3.heap.size + 2) w1.heap.size L.length (rowM L) w5 HLT.out hzz.2 HSY.out HPI.out)
    have hbn : w1.heap.size < w3.heap.size := block_lt_of_cell HNet.out.1
    have H0 : Hid (PI w (w3.heap.size + 1) w3.heap.size w1.heap.size [] w5) := ⟨hpt5, ⟨_, hbx5, hog5⟩, HB3.out.trans (hb5.mono hz3)⟩
    simp only [Nat.add_assoc, Nat.reduceAdd] at *
    rw [hw5]
    clear hw5 hb5 hbx5 hpt5 hog5 HPI HNet HB3 HB1 hnb
    refine (wpIn_wide (n := 9)).1 ?_
    refine wpIn_rangeFunc_ownF rfl (by omega) (gf := 123) (lb := #[.pointer (some ⟨w3.heap.size + 2, 0, none⟩)]) rfl trivial (enters_of Tryd.func123 (by kernel_rfl) rfl)
      HSQ.out (fun h k => h.trans k) (fun W l o o' hl ho h1 h2 => KeepsBut.putObj W l o' ⟨by omega, by omega, by omega⟩) (Below.refl _ _) (fun _ => rfl)
      (fun pre W => PI w (w3.heap.size + 1) w3.heap.size w1.heap.size (pre.map (fun v => listM (compN (nearM (rowM L)) L.length v))) W)
      (fun _ _ _ => False)
      (PI.own w _ _ _ _ _ (by omega))
      (fun _ _ _ _ _ h _ _ => h)
      H0.out
      ?a1 ?assign ?body ?done ?stop
    case assign =>
      intro l x W K hK
      simp only [encM]
      gi_wp2
      exact hK
    case body =>
      rintro l pre x W ⟨hpt, ⟨val, hbx, hog⟩, hb⟩ hlen
      have HPT := Lib.hid hpt
      have hbc : W.cell? ⟨w3.heap.size + 1, 0, none⟩ = some val := by rw [cell_of_row W _ 0 _ _ _ hbx]; rfl
      have hbf : W.frozen? ⟨w3.heap.size + 1, 0, none⟩ = false := frozen_of_row W _ 0 _ _ hbx
      have hcl := compN_lt (nearM (rowM L)) L.length x
      obtain ⟨R, hR, hRr, hRd⟩ := hog.owns
      have HR := Lib.hid hR
      have HRr := Lib.hid hRr
      have HRd := Lib.hid hRd
      have HBX := Lib.hid hbx
      have HB := Lib.hid hb
      clear hR hRr hRd hog hb
      have hmix : Tryd.prog.follows .mixedOrders = true := by kernel_rfl
      gi_wp2_with fail
      refine wpIn_region_any hmix ?_
      refine anyIn_two 0 1 (by kernel_rfl) ?o0 ?o1
      case' o1 =>
        refine opIn_at rfl rfl ?_
        simp [go_sem, Oper.wpIn, Oper.about, Oper.uponIn]
        refine anyIn_two 0 2 (by kernel_rfl) ?o2 ?o3
      case' o3 =>
        refine opIn_at rfl rfl ?_
        simp [go_sem, Oper.wpIn, Oper.about, Oper.uponIn]
        refine ⟨trivial, ?_⟩
        refine (CallsIn.inRound l (callsIn_wide.2 (list_any _ _ hcl))).mono ?_
        rintro e w7 ⟨n7, a7, c7, rfl, ho7, hb7⟩
        have hbc7 := cell_keep hb7 (cell_keep (Below.refl _ _).drew hbc)
        refine anyIn_two 0 3 (by kernel_rfl) ?o4 ?o5
      case' o0 =>
        refine opIn_at rfl rfl ?_
        simp [go_sem, Oper.wpIn, Oper.about, Oper.uponIn, hbc]
        refine anyIn_one 1 (by kernel_rfl) ?_
        refine opIn_at rfl rfl ?_
        simp [go_sem, Oper.wpIn, Oper.about, Oper.uponIn]
        refine anyIn_one 2 (by kernel_rfl) ?_
        refine opIn_at rfl rfl ?_
        simp [go_sem, Oper.wpIn, Oper.about, Oper.uponIn]
        refine ⟨trivial, ?_⟩
        refine (CallsIn.inRound l (callsIn_wide.2 (list_any _ _ hcl))).mono ?_
        rintro e w7 ⟨n7, a7, c7, rfl, ho7, hb7⟩
        have hbc7 := cell_keep hb7 (cell_keep (Below.refl _ _).drew hbc)
        refine anyIn_one 3 (by kernel_rfl) ?_
        refine opIn_at rfl rfl ?_
        simp [go_sem, Oper.wpIn, Oper.about, Oper.uponIn]
      case' o2 =>
        refine opIn_at rfl rfl ?_
        simp [go_sem, Oper.wpIn, Oper.about, Oper.uponIn, hbc]
        refine anyIn_one 2 (by kernel_rfl) ?_
        refine opIn_at rfl rfl ?_
        simp [go_sem, Oper.wpIn, Oper.about, Oper.uponIn]
        refine ⟨trivial, ?_⟩
        refine (CallsIn.inRound l (callsIn_wide.2 (list_any _ _ hcl))).mono ?_
        rintro e w7 ⟨n7, a7, c7, rfl, ho7, hb7⟩
        have hbc7 := cell_keep hb7 (cell_keep (Below.refl _ _).drew hbc)
        refine anyIn_one 3 (by kernel_rfl) ?_
        refine opIn_at rfl rfl ?_
        simp [go_sem, Oper.wpIn, Oper.about, Oper.uponIn]
      case' o4 =>
        refine opIn_at rfl rfl ?_
        simp [go_sem, Oper.wpIn, Oper.about, Oper.uponIn, hbc7]
        refine anyIn_one 3 (by kernel_rfl) ?_
        refine opIn_at rfl rfl ?_
        simp [go_sem, Oper.wpIn, Oper.about, Oper.uponIn]
      case' o5 =>
        refine opIn_at rfl rfl ?_
        simp [go_sem, Oper.wpIn, Oper.about, Oper.uponIn]
        have hbc8 := cell_keep (w' := w7.alloc (.cells #[.slice a7 n7 c7] 36)) ((Below.refl _ _).alloc (Nat.le_refl _) _) hbc7
        refine anyIn_one 0 (by kernel_rfl) ?_
        refine opIn_at rfl rfl ?_
        simp [go_sem, Oper.wpIn, Oper.about, Oper.uponIn, hbc8]
      all_goals (
        have hb7W : Below W.heap.size W w7 := (Below.refl _ _).drew.trans hb7
        have hbA : Below w7.heap.size w7 (w7.alloc (.cells #[.slice a7 n7 c7] 36)) := (Below.refl _ _).alloc (Nat.le_refl _) _
        have hbWA : Below W.heap.size W (w7.alloc (.cells #[.slice a7 n7 c7] 36)) := hb7W.trans (hbA.mono hb7W.size)
        have hzW : w3.heap.size ≤ W.heap.size := by have := (Array.getElem?_eq_some_iff.1 HBX.out).1; omega
        have hzA := hbWA.size
        refine anyIn_one 4 (by kernel_rfl) ?_
        refine opIn_at rfl rfl ?_
        refine wpIn_append_own _ (.tmp 17) (.tmp 20) 27 rfl w3.heap.size 36 j0 (.slice none 0 0) 1 24 Tryd.underlying27 hj hy0 hy1 hy2 rfl (by decide) val _ _ rfl (ownsRow_keep HR.out hbWA) ⟨w7.heap.size, 0, none⟩ 1 1 [.slice a7 n7 c7] rfl rfl ?_ ?_ ?_ ?_ ?_ ?_
        · intro j u hj
          match j, hj with
          | 0, hj => simp at hj; subst hj; simp [Addr.add]
        · intro u hu; simp at hu; subst hu; rfl
        · simp; unfold maxLen; omega
        · simp; omega
        · omega
        intro v8 w8 hown8 hgrow8
        have hog8 := OwnGrid.snoc (T := 2) (T1 := 36) (by decide) hbWA hzW (ho7.keep hbA) rfl (by simp; unfold maxLen; omega) R HR.out HRr.out HRd.out hown8 hgrow8
        have hbox8 : w8.heap[w3.heap.size + 1]? = some (.cells #[val] 27 (0, 0)) := by
          rw [hgrow8.block _ (by have := (Array.getElem?_eq_some_iff.1 HBX.out).1; omega) ?_]
          · exact (hbWA.block _ (Array.getElem?_eq_some_iff.1 HBX.out).1).trans HBX.out
          · intro e
            rcases HR.out.2 with ⟨e3, _⟩ | ⟨g', cap', cur', e3, _, hh', _⟩
            · rw [e3] at e; simp [Value.ownBlock] at e
            · rw [e3] at e
              simp [Value.ownBlock] at e
              subst e
              rw [HBX.out] at hh'
              simp at hh'
        obtain ⟨a8, c8, e8⟩ := hog8.grid.slice
        subst e8
        have hbc8' : w8.cell? ⟨w3.heap.size + 1, 0, none⟩ = some val := by rw [cell_of_row w8 _ 0 _ _ _ hbox8]; rfl
        have hbf8 : w8.frozen? ⟨w3.heap.size + 1, 0, none⟩ = false := frozen_of_row w8 _ 0 _ _ hbox8
        have hne : ∀ k cs U fr, W.heap[k]? = some (Obj.cells cs U fr) → U ≠ 36 → some k ≠ val.ownBlock := fun k cs U fr hk hU e => by
          rcases HR.out.2 with ⟨e3, _⟩ | ⟨g', cap', cur', e3, _, hh', _⟩
          · rw [e3] at e; simp [Value.ownBlock] at e
          · rw [e3] at e
            simp [Value.ownBlock] at e
            subst e
            rw [hk] at hh'
            simp at hh'
            exact hU hh'.2.1
        have hge : ∀ k, val.ownBlock = some k → w3.heap.size ≤ k := fun k hk => (HR.out.lt k hk).1
        have HKO : Hid (KeepsOthers W (w8.setCell ⟨w3.heap.size + 1, 0, none⟩ (.slice a8 (pre.map (fun v => listM (compN (nearM (rowM L)) L.length v)) ++ [listM (compN (nearM (rowM L)) L.length x)]).length c8))) := by
          refine KeepsOthers.trans (KeepsOthers.trans (?_ : KeepsOthers W (w7.alloc (.cells #[.slice a7 n7 c7] 36))) (KeepsOthers.of_grownBy hgrow8 ?_)) (KeepsOthers.setCell _ _ _)
          · exact ⟨hbWA.size, fun k o hk _ => (hbWA.block k (Array.getElem?_eq_some_iff.1 hk).1).trans hk⟩
          · intro j o hj ho
            rcases (ownsRow_keep HR.out hbWA).2 with ⟨e3, _⟩ | ⟨g', cap', cur', e3, _, hh', _⟩
            · rw [e3] at hj; simp [Value.ownBlock] at hj
            · rw [e3] at hj
              simp [Value.ownBlock] at hj
              subst hj
              rw [hh'] at ho; cases ho; rfl
        have HKB : Hid (KeepsBut (fun k => k ≠ w3.heap.size + 2 ∧ k ≠ w1.heap.size ∧ k ≠ 0) W (w8.setCell ⟨w3.heap.size + 1, 0, none⟩ (.slice a8 (pre.map (fun v => listM (compN (nearM (rowM L)) L.length v)) ++ [listM (compN (nearM (rowM L)) L.length x)]).length c8))) := by
          refine (KeepsBut.trans (KeepsBut.below hbWA) ⟨hgrow8.size, fun k hk hn => hgrow8.block k hk ?_⟩).trans (KeepsBut.setCell _ _ _ ⟨by simp, by simp; omega, by simp⟩)
          intro e
          apply hn
          refine ⟨fun e2 => ?_, fun e2 => ?_, fun e2 => ?_⟩
          · subst e2; exact hne _ _ _ _ HPT.out (by decide) e
          · have := hge k e.symm; omega
          · have := hge k e.symm; omega
        have HPI : Hid (PI w (w3.heap.size + 1) w3.heap.size w1.heap.size ((pre ++ [x]).map (fun v => listM (compN (nearM (rowM L)) L.length v))) (w8.setCell ⟨w3.heap.size + 1, 0, none⟩ (.slice a8 (pre.map (fun v => listM (compN (nearM (rowM L)) L.length v)) ++ [listM (compN (nearM (rowM L)) L.length x)]).length c8))) := by
          refine ⟨?_, ⟨_, heap_setCell_same w8 _ 0 _ _ _ hbox8, ?_⟩, ?_⟩
          · rw [heap_setCell_other _ _ _ _ (by simp)]
            exact (hgrow8.block _ (by have := (Array.getElem?_eq_some_iff.1 HPT.out).1; omega) (hne _ _ _ _ HPT.out (by decide))).trans ((hbWA.block _ (Array.getElem?_eq_some_iff.1 HPT.out).1).trans HPT.out)
          · rw [List.map_append]
            refine hog8.kept (fun k cs U fr hU hk => ?_)
            rw [heap_setCell_other _ _ _ _ ?_]
            · exact hk
            · intro e
              simp at e
              subst e
              rw [hbox8] at hk
              simp at hk
              rcases hU with h | h <;> (rw [h] at hk; exact absurd hk.2.1 (by decide))
          · exact ((HB.out.trans (hbWA.mono HB.out.size)).grown hgrow8 (by have := HB.out.size; omega) (fun j hj => by have := hge j hj; omega)).setCell (p := ⟨w3.heap.size + 1, 0, none⟩) (by simp; omega) _
        clear hog8 hgrow8 hown8 hbox8 hne hge ho7 hb7 hb7W hbA hbWA
        refine anyIn_one 5 (by kernel_rfl) ?_
        refine opIn_at rfl rfl ?_
        simp [go_sem, Oper.wpIn, Oper.about, Oper.uponIn, hbc8', hbf8]
        refine ⟨by kernel_rfl, ?_⟩
        have hlen8 : (pre.map (fun v => listM (compN (nearM (rowM L)) L.length v)) ++ [listM (compN (nearM (rowM L)) L.length x)]).length = pre.length + 1 := by simp
        rw [hlen8] at HKO HKB HPI
        exact ⟨HKO.out, HKB.out, HPI.out⟩)
    case done =>
      rintro D ys W hD rfl ⟨hpt, ⟨val, hbx, hog⟩, hb⟩ hK
      obtain ⟨a8, c8, e8⟩ := hog.grid.slice
      subst e8
      have hbc : W.cell? ⟨w3.heap.size + 1, 0, none⟩ = some (.slice a8 ((headsTo (nearM (rowM L)) L.length L.length).map (fun v => listM (compN (nearM (rowM L)) L.length v))).length c8) := by rw [cell_of_row W _ 0 _ _ _ hbx]; rfl
      have HK := Lib.hid hK
      have hDW : D < W.heap.size := (Array.getElem?_eq_some_iff.1 hK).1
      have HP : Hid (GaveGrid w (partsL L) (.returned (.slice a8 ((headsTo (nearM (rowM L)) L.length L.length).map (fun v => listM (compN (nearM (rowM L)) L.length v))).length c8)) (W.putObj D (.deferred none))) := by
        rw [HE.out]
        refine ⟨_, _, _, rfl, (hog.mono hz3).kept (fun k cs U fr _ h => ?_), hb.trans (below_put W D _ (by omega) hDW)⟩
        rw [World.putObj_heap_other (fun e => ?_)]
        · exact h
        · subst e; rw [hK] at h; cases h
      clear hpt hbx hog hb hK
      go_wp2
      refine ⟨by simp, .inl ⟨_, _, rfl, run_takeDeferred HK.out, ?_⟩⟩
      exact ⟨_, results_tmp rfl _ _ _, by simpa using HP.out⟩
    case stop =>
      rintro D c pre W _ _ h _
      exact h.elim
  · have HE : Hid (partsL L = []) := by show _ = _; unfold partsL; rw [if_neg hG]
    rw [decide_eq_false hG, netArr_no hG]
    clear hG
    go_wp2_with (refine wpList_store_net rfl 74 (.tmp 3) (.tmp 10) rfl w1.heap.size 0 (fun _ => 0) rfl rfl Tryd.sizeNet 0 (fun _ => 0) hnb ?_; intro w3 hp; have HB3 : Hid (Below w.heap.size w w3) := (HB1.out.alloc hz _).trans (hp.below.mono hz); clear hp)
    exact ⟨_, results_tmp rfl _ _ _, _, _, _, rfl, by rw [HE.out]; exact ⟨fun _ => undef, by simp, .inl ⟨rfl, rfl⟩, fun i hi => absurd hi (by simp), fun i j k _ hj => absurd hj (by simp)⟩, HB3.out⟩

end Go.Proofs.YtjbfoiolcpigfaaDoor

/- Walks: the laws' tests of lists, written by program out of A4's (the same code under other names). -/
namespace Go.Proofs.YtjbfoiolcpigfaaDoor
open Go.RowKit

set_option maxHeartbeats 400000 in
theorem likeInts_any (v v' : Value) (xs ys : List Int) (w : World) (h : RowAt w v xs) (h' : RowAt w v' ys) :
    Calls Tryd.prog 35 #[v, v'] w fun e w' => e = .returned (.bool (decide (xs = ys))) ∧ Drawn w w' := by
  have hl := h.len
  have hl' := h'.len
  unfold maxLen at hl hl'
  by_cases hn : xs.length = ys.length
  · have hne : ((xs.length : Int) != (ys.length : Int)) = false := by rw [hn]; simp
    by_cases h0 : xs.length = 0
    · have hd : decide (xs = ys) = true := by rw [decide_eq_true_iff, List.length_eq_zero_iff.1 h0, List.length_eq_zero_iff.1 (by omega : ys.length = 0)]
      rw [hd]
      obtain ⟨a, c, rfl⟩ := h.zero h0
      obtain ⟨a', c', rfl⟩ := h'.zero (by omega)
      clear hn hne h h' h0 hl hl' hd
      go_enter Tryd.func35, Tryd.ntmps35
      go_wp2
      refine wp_loop_rounds 1 ?_
      rw [rounds_succ]
      go_wp2
      go_ret
      exact ⟨rfl, Drawn.refl _⟩
    · obtain ⟨b, o, c, rfl, l1, l2, hc⟩ := h.pos (by omega)
      obtain ⟨b', o', c', rfl, l1', l2', hc'⟩ := h'.pos (by omega)
      have HC := Lib.hid hc
      have HC' := Lib.hid hc'
      have HN := Lib.hid hn
      have hle : xs.length ≤ ys.length := by omega
      clear hc hc' hn h0
      go_enter Tryd.func35, Tryd.ntmps35
      go_wp2
      go_loopw [5] (fun i wr => ∃ k : Nat, k ≤ xs.length ∧ i = .int .i64 k ∧ (∀ j, j < k → nth xs j = nth ys j) ∧ Drawn w wr) (fun i _ => xs.length - (intOf i).toNat)
      case atStart => exact ⟨0, Nat.zero_le _, rfl, (fun j hj => absurd hj (by omega)), Drawn.refl _⟩
      case round =>
        obtain ⟨k, hk, rfl, he, hd⟩ := hrel
        have HE := Lib.hid he
        clear he
        by_cases hlt : k < xs.length
        · have hlt' : k < ys.length := by omega
          have hck := cell_drawn hd (HC.out k hlt)
          have hck' := cell_drawn hd (HC'.out k hlt')
          by_cases hx : nth xs k = nth ys k
          · have hxb : (nth xs k != nth ys k) = false := by rw [hx]; simp
            have HX := Lib.hid hx
            clear hx
            go_wp2
            go_quiet (fail)
            go_wp2
            go_roundw
            case rel => exact ⟨k + 1, by omega, by go_num, (fun j hj => by rcases Nat.lt_succ_iff_lt_or_eq.1 hj with h | h; exact HE.out j h; rw [h]; exact HX.out), hd.more _⟩
            case measure => simp [intOf]; omega
          · have hxb : (nth xs k != nth ys k) = true := by rw [bne_iff_ne]; exact hx
            have HX := Lib.hid hx
            clear hx
            go_wp2
            go_quiet (fail)
            go_wp2
            go_ret
            exact ⟨ret_bool (by symm; rw [decide_eq_false_iff_not]; intro e; exact HX.out (by rw [e])), hd.more _⟩
        · obtain rfl : k = xs.length := by omega
          go_wp2
          go_ret
          exact ⟨ret_bool (by symm; rw [decide_eq_true_iff]; exact nth_ext HN.out HE.out), hd⟩
  · have hne : ((xs.length : Int) != (ys.length : Int)) = true := by rw [bne_iff_ne]; omega
    have hd : decide (xs = ys) = false := by simp; intro e; exact hn (by rw [e])
    rw [hd]
    obtain ⟨a, c, rfl⟩ := h.slice
    obtain ⟨a', c', rfl⟩ := h'.slice
    go_enter Tryd.func35, Tryd.ntmps35
    go_wp2
    go_ret
    exact ⟨rfl, Drawn.refl _⟩

set_option maxHeartbeats 400000 in
theorem w5Lists_any (v v' : Value) (xs ys : List (List Int)) (w : World) (h : GridAt w v xs) (h' : GridAt w v' ys) :
    Calls Tryd.prog 39 #[v, v'] w fun e w' => e = .returned (.bool (decide (xs = ys))) ∧ Drawn w w' := by
  have hl := h.len
  have hl' := h'.len
  unfold maxLen at hl hl'
  by_cases hn : xs.length = ys.length
  · have hne : ((xs.length : Int) != (ys.length : Int)) = false := by rw [hn]; simp
    by_cases h0 : xs.length = 0
    · have hd : decide (xs = ys) = true := by rw [decide_eq_true_iff, List.length_eq_zero_iff.1 h0, List.length_eq_zero_iff.1 (by omega : ys.length = 0)]
      rw [hd]
      obtain ⟨a, c, rfl⟩ := h.zero h0
      obtain ⟨a', c', rfl⟩ := h'.zero (by omega)
      clear hn hne h h' h0 hl hl' hd
      go_enter Tryd.func39, Tryd.ntmps39
      go_wp2
      refine wp_loop_rounds 1 ?_
      rw [rounds_succ]
      go_wp2
      go_ret
      exact ⟨rfl, Drawn.refl _⟩
    · obtain ⟨b, o, c, A, C, rfl, l1, l2, hc⟩ := h.pos (by omega)
      obtain ⟨b', o', c', A', C', rfl, l1', l2', hc'⟩ := h'.pos (by omega)
      have HC := Lib.hid hc
      have HC' := Lib.hid hc'
      have HN := Lib.hid hn
      have hle : xs.length ≤ ys.length := by omega
      clear hc hc' hn h0
      go_enter Tryd.func39, Tryd.ntmps39
      go_wp2
      go_loopw [5] (fun i wr => ∃ k : Nat, k ≤ xs.length ∧ i = .int .i64 k ∧ (∀ j, j < k → nthR xs j = nthR ys j) ∧ Drawn w wr) (fun i _ => xs.length - (intOf i).toNat)
      case atStart => exact ⟨0, Nat.zero_le _, rfl, (fun j hj => absurd hj (by omega)), Drawn.refl _⟩
      case round =>
        obtain ⟨k, hk, rfl, he, hd⟩ := hrel
        have HE := Lib.hid he
        clear he
        by_cases hlt : k < xs.length
        · have hlt' : k < ys.length := by omega
          have hck := cell_drawn hd (HC.out k hlt).1
          have hck' := cell_drawn hd (HC'.out k hlt').1
          have hr := Lib.hid ((HC.out k hlt).2.drawn hd)
          have hr' := Lib.hid ((HC'.out k hlt').2.drawn hd)
          by_cases hx : nthR xs k = nthR ys k
          · have hxb : decide (nthR xs k = nthR ys k) = true := by rw [hx]; simp
            have hcall : ∀ n, Calls Tryd.prog 35 #[.slice (A k) (nthR xs k).length (C k), .slice (A' k) (nthR ys k).length (C' k)] (wr.drewN n) fun e w2 => e = .returned (.bool true) ∧ ∃ m, w2 = (wr.drewN n).drewN m :=
              fun n => (likeInts_any _ _ _ _ _ (hr.out.drewN n) (hr'.out.drewN n)).mono (by rintro e w2 ⟨rfl, hd2⟩; exact ⟨by rw [hxb], hd2⟩)
            have HCall := Lib.hid hcall
            clear hcall hxb
            have HX := Lib.hid hx
            clear hx
            go_wp2
            go_quiet ((go_at_call 35; exact Calls.quiet_of (HCall.out _)))
            go_wp2
            go_roundw
            case rel => exact ⟨k + 1, by omega, by go_num, (fun j hj => by rcases Nat.lt_succ_iff_lt_or_eq.1 hj with h | h; exact HE.out j h; rw [h]; exact HX.out), hd.more _⟩
            case measure => simp [intOf]; omega
          · have hxb : decide (nthR xs k = nthR ys k) = false := by rw [decide_eq_false_iff_not]; exact hx
            have hcall : ∀ n, Calls Tryd.prog 35 #[.slice (A k) (nthR xs k).length (C k), .slice (A' k) (nthR ys k).length (C' k)] (wr.drewN n) fun e w2 => e = .returned (.bool false) ∧ ∃ m, w2 = (wr.drewN n).drewN m :=
              fun n => (likeInts_any _ _ _ _ _ (hr.out.drewN n) (hr'.out.drewN n)).mono (by rintro e w2 ⟨rfl, hd2⟩; exact ⟨by rw [hxb], hd2⟩)
            have HCall := Lib.hid hcall
            clear hcall hxb
            have HX := Lib.hid hx
            clear hx
            go_wp2
            go_quiet ((go_at_call 35; exact Calls.quiet_of (HCall.out _)))
            go_wp2
            go_ret
            exact ⟨ret_bool (by symm; rw [decide_eq_false_iff_not]; intro e; exact HX.out (by rw [e])), hd.more _⟩
        · obtain rfl : k = xs.length := by omega
          go_wp2
          go_ret
          exact ⟨ret_bool (by symm; rw [decide_eq_true_iff]; exact nthR_ext HN.out HE.out), hd⟩
  · have hne : ((xs.length : Int) != (ys.length : Int)) = true := by rw [bne_iff_ne]; omega
    have hd : decide (xs = ys) = false := by simp; intro e; exact hn (by rw [e])
    rw [hd]
    obtain ⟨a, c, rfl⟩ := h.slice
    obtain ⟨a', c', rfl⟩ := h'.slice
    go_enter Tryd.func39, Tryd.ntmps39
    go_wp2
    go_ret
    exact ⟨rfl, Drawn.refl _⟩


end Go.Proofs.YtjbfoiolcpigfaaDoor
