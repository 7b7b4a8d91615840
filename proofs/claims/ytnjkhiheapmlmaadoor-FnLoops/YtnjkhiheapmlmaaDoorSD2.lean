/- Walks: the draws of FnSides and FnLoops. -/
import Derived.Test.YtnjkhiheapmlmaaDoorQK2
import Derived.Test.YtnjkhiheapmlmaaDoorQSO1
import Derived.StillTailTactics
import Derived.BigQuiet

namespace Go.Proofs.YtnjkhiheapmlmaaDoor
open Go.RowKit

/-- In the midst of l3Draw: box b holds a graph of masks of one's own, the result's box nothing, block c the cursor; the edges lie above block K. -/
structure MidE (w : World) (c : Nat) (bv : Value) (nb n b g cap K : Nat) (vE : Value) (E : List (List Int)) (wr : World) : Prop where
  box : BoxT 26 wr b (.slice (some ⟨g, 0, none⟩) n cap)
  own : ∃ M, OwnGrid 2 28 wr (w.heap.size + 1) (.slice (some ⟨g, 0, none⟩) n cap) (maskL n M)
  res : BoxAt wr w.heap.size (.slice none 0 0)
  cur : CurAt wr c bv nb
  bel : Touched c (c + 1) w wr
  edg : OwnGrid 2 28 wr K vE E
theorem MidE.drew {w : World} {c nb n b g cap K : Nat} {bv vE : Value} {E : List (List Int)} {wr w' : World} (h : MidE w c bv nb n b g cap K vE E wr) (hc : c < w.heap.size) (hb : Below wr.heap.size wr w') : MidE w c bv nb n b g cap K vE E w' := by
  obtain ⟨M, hM⟩ := h.own
  exact ⟨h.box.keep hb, ⟨M, hM.keep hb⟩, h.res.keep hb, h.cur.keepB hb h.cur.lt, h.bel.under hb h.bel.size, h.edg.keep hb⟩
theorem MidE.link {w : World} {c nb n b g cap K : Nat} {bv vE : Value} {E : List (List Int)} {wr : World} (h : MidE w c bv nb n b g cap K vE E wr) (hc : c < w.heap.size) (hb : w.heap.size < b) (hbK : b < K) (hgK : g < K) (hn : n ≤ 16) (x y : Nat) (hx : x < n) (hy : y < n) (hxy : x ≠ y) :
    Calls Tryd.prog 56 #[.agg #[.slice (some ⟨g, 0, none⟩) n cap], .int .i64 (x : Int), .int .i64 (y : Int)] wr (fun e w' => e = .returned (.agg #[.slice (some ⟨g, 0, none⟩) n cap]) ∧ w'.cell? ⟨b, 0, none⟩ = some (.slice (some ⟨g, 0, none⟩) n cap) ∧ w'.frozen? ⟨b, 0, none⟩ = false ∧ MidE w c bv nb n b g cap K vE E (w'.setCell ⟨b, 0, none⟩ (.slice (some ⟨g, 0, none⟩) n cap))) := by
  obtain ⟨h1, ⟨M, h2⟩, h3, h4, h5, h6⟩ := h
  have hgne : g ≠ b := by
    obtain ⟨cur, hcur⟩ := h2.blkT
    intro e
    rw [e] at hcur
    have hbb : wr.heap[b]? = _ := h1
    rw [hcur] at hbb
    simp at hbb
  have hlk := l1Link_own x y g cap (w.heap.size + 1) (maskL n M) wr (by rw [maskL_len]; exact h2) (by have := h1.lt; omega) (by rw [maskL_len]; exact hx) (by rw [maskL_len]; exact hy) (by rw [maskL_len]; exact hn) hxy (M x) (M y) (maskL_nth _ hx) (maskL_nth _ hy)
  rw [maskL_len, maskL_link _ _ _ _ hxy] at hlk
  refine hlk.mono ?_
  rintro e w6 ⟨rfl, ho6, hb6, ht6⟩
  have bt6 : BoxT 26 w6 b (.slice (some ⟨g, 0, none⟩) n cap) := by
    unfold BoxT
    rw [ht6 _ h1.lt (fun e => hgne e.symm)]
    exact h1
  have hsz := hb6.size
  refine ⟨rfl, bt6.box.1, bt6.box.2, bt6.set _, ⟨linkM M x y, ho6.setType bt6 (by decide) (by decide) 0 _⟩, (h3.keepB hb6 (by omega)).setOther (by simp; omega) _, (h4.keepB hb6 (by omega)).setOther (by simp; omega) _, (h5.under hb6 (by omega)).set (by simp; omega) _, ?_⟩
  refine h6.touched (B := 0) (U := K) ⟨hb6.os, hb6.tape, hb6.output, by rw [size_setCell1]; exact hsz, fun j hj hj2 => ?_⟩ (Nat.le_refl _)
  rw [heap_setCell_other _ _ _ _ (by simp; omega)]
  exact ht6 j hj (by omega)

set_option maxHeartbeats 8000000 in
set_option maxRecDepth 100000 in
theorem l3Draw_any (c nb : Nat) (bv : Value) (w : World) (hc : CurAt w c bv nb) (hb : BytesAt w c bv nb) : Calls Tryd.prog 24 #[.pointer (some ⟨c, 0, none⟩)] w (DrewG w c bv nb) := by
  have hcw := hc.lt
  have hb0 : Below w.heap.size w (w.alloc (.cells #[.slice none 0 0] 26)) := (Below.refl _ _).alloc (Nat.le_refl _) _
  have hbx0 : BoxAt (w.alloc (.cells #[.slice none 0 0] 26)) w.heap.size (.slice none 0 0) := BoxAt.new _ _ _
  have HBY := Lib.hid hb
  have HC0 := Lib.hid (hc.keepB hb0 hcw)
  have HBY0 := Lib.hid (hb.keepB hb0 (Nat.le_of_lt hcw))
  have HB0 := Lib.hid hb0
  have HBX0 := Lib.hid hbx0
  clear hc hb hb0 hbx0
  go_enter Tryd.func24, Tryd.ntmps24
  go_wp2_with fail
  refine (l1DrawAny_any c nb bv _ HC0.out HBY0.out).mono ?_
  rintro e w1 ⟨L, n, a, cap, rfl, ho1, hc1, ht1, hn17⟩
  obtain rfl : n = L.length := by
    obtain ⟨a3, c3, e3⟩ := ho1.grid.slice
    simp only [Value.slice.injEq] at e3
    exact e3.2.1
  rw [size_alloc1] at ho1
  have hs1 : w.heap.size + 1 ≤ w1.heap.size := by have := ht1.size; rw [size_alloc1] at this; exact this
  have hst : Below w1.heap.size w1 (w1.alloc (.cells #[.slice a L.length cap] 26)) := (Below.refl _ _).alloc (Nat.le_refl _) _
  have hT : Touched c (c + 1) w (w1.alloc (.cells #[.slice a L.length cap] 26)) := ((Touched.ofBelow HB0.out).trans ht1).under hst (by omega)
  have hX : BoxAt (w1.alloc (.cells #[.slice a L.length cap] 26)) w.heap.size (.slice none 0 0) := (HBX0.out.touched ht1 (by omega) (by simp)).keep hst
  have HO2 := Lib.hid (ho1.keep hst)
  have HBT2 := Lib.hid (BoxT.new w1 (.slice a L.length cap) 26)
  have HC2 := Lib.hid (hc1.keepB hst hc1.lt)
  have HT2 := Lib.hid hT
  have HX2 := Lib.hid hX
  clear ho1 hc1 ht1 hst hT hX HC0 HBY0 HB0 HBX0
  go_wp2_with fail
  refine (l1Once_any c nb bv _ _ HC2.out (HT2.out.bytes HBY.out (Nat.le_of_lt hcw)) (by unfold I64; omega)).mono ?_
  rintro e w3 ⟨b3, rfl, hc3, ho3⟩
  have HO3 := Lib.hid (HO2.out.touched (ho3.touched (Nat.le_refl _) (Nat.lt_succ_self c)) (by omega))
  have HBT3 := Lib.hid (HBT2.out.only ho3 (by omega))
  have HC3 := Lib.hid hc3
  have HT3 := Lib.hid (HT2.out.only ho3)
  have HX3 := Lib.hid (HX2.out.only ho3 (by omega))
  clear hc3 ho3 HO2 HBT2 HC2 HT2 HX2
  cases b3 with
  | true =>
    have hmid : MidG w c bv nb w1.heap.size w3 := ⟨_, L.length, _, cap, HBT3.out, HO3.out, HX3.out, HC3.out, HT3.out, hn17⟩
    obtain ⟨n8, a8, cap8, kb8, k08, f08, q08, hp8⟩ := hmid.done hcw
    have HP := Lib.hid hp8
    have HQ := Lib.hid q08
    clear hmid hp8 q08
    go_wp2
    exact bodyPost_ret (v := .agg #[.slice a8 n8 cap8]) (by simp [results, Tryd.results24, go_sem, HQ.out]) rfl HP.out
  | false =>
    have kb3 := HBT3.out.box.1
    go_wp2_with fail
    refine (specGraphOk_any _ L _ HO3.out.grid).mono ?_
    rintro e w4 ⟨rfl, hb4⟩
    have HO4 := Lib.hid (HO3.out.keep hb4)
    have HBT4 := Lib.hid (HBT3.out.keep hb4)
    have HC4 := Lib.hid (HC3.out.keepB hb4 HC3.out.lt)
    have HT4 := Lib.hid (HT3.out.under hb4 HT3.out.size)
    have HX4 := Lib.hid (HX3.out.keep hb4)
    clear hb4 HO3 HBT3 HC3 HT3 HX3 kb3
    by_cases hG : GraphP L
    · rw [decide_eq_true hG]
      have hz := hG.1
      have HG := Lib.hid hG
      have kb4 := HBT4.out.box.1
      clear hG
      go_wp2_with fail
      refine (l1Size_any _ L _ HO4.out.grid).mono ?_
      rintro e w5 ⟨rfl, hb5⟩
      have HO5 := Lib.hid (HO4.out.keep hb5)
      have HBT5 := Lib.hid (HBT4.out.keep hb5)
      have HC5 := Lib.hid (HC4.out.keepB hb5 HC4.out.lt)
      have HT5 := Lib.hid (HT4.out.under hb5 HT4.out.size)
      have HX5 := Lib.hid (HX4.out.keep hb5)
      clear hb5 HO4 HBT4 HC4 HT4 HX4 kb4
      have hw5 := HBT5.out.lt
      go_wp2_with fail
      refine (l1Empty_any L.length _ (by omega)).mono ?_
      rintro e w6 ⟨n6, a6, c6, rfl, ho6, hb6⟩
      obtain rfl : n6 = L.length := by
        obtain ⟨a3, c3, e3⟩ := ho6.grid.slice
        simp only [Value.slice.injEq] at e3
        simpa using e3.2.1
      rw [maskL_zero L.length []] at ho6
      have hs6 := hb6.size
      obtain ⟨g, cap', eg, hBg, hgs, _⟩ := ho6.place (by rw [maskL_len]; omega)
      rw [maskL_len] at eg
      simp only [Value.slice.injEq, true_and] at eg
      obtain ⟨rfl, rfl⟩ := eg
      have hst : Below w6.heap.size w6 (w6.alloc (.cells #[.slice (some ⟨g, 0, none⟩) L.length c6] 26)) := (Below.refl _ _).alloc (Nat.le_refl _) _
      have hb56 := hb6.trans (hst.mono hs6)
      have HO6 := Lib.hid (HO5.out.keep hb56)
      have HBT6 := Lib.hid (HBT5.out.keep hb56)
      have HC6 := Lib.hid (HC5.out.keepB hb56 HC5.out.lt)
      have HT6 := Lib.hid (HT5.out.under hb56 HT5.out.size)
      have HX6 := Lib.hid (HX5.out.keep hb56)
      have HOE := Lib.hid ((ho6.mono (show w.heap.size + 1 ≤ w5.heap.size by omega)).keep hst)
      have HBE := Lib.hid (BoxT.new w6 (.slice (some ⟨g, 0, none⟩) L.length c6) 26)
      have kb6 := HBT6.out.box.1
      clear ho6 hb6 hst hb56 HO5 HBT5 HC5 HT5 HX5
      go_wp2_with fail
      refine (l1Edges_any _ L _ HO6.out.grid HG.out).mono ?_
      rintro e w7 ⟨n7, a7, c7, rfl, ho7, hb7⟩
      obtain ⟨E, hE⟩ : ∃ E, E = edgesTo L L.length := ⟨_, rfl⟩
      have HEF : Hid (∀ i, i < E.length → ∃ u v : Nat, nthR E i = [(u : Int), (v : Int)] ∧ u < L.length ∧ v < L.length ∧ u ≠ v) := fun i hi => by
        rw [hE] at hi ⊢
        obtain ⟨u, v, e, hu, hv, ha⟩ := edge_at HG.out hi
        exact ⟨u, v, e, hu, hv, fun h => by rw [h, adjB_self HG.out] at ha; cases ha⟩
      rw [← hE] at ho7
      obtain rfl : n7 = E.length := by
        obtain ⟨a3, c3, e3⟩ := ho7.grid.slice
        simp only [Value.slice.injEq] at e3
        exact e3.2.1
      have hel := ho7.grid.len
      unfold maxLen at hel
      rw [size_alloc1] at ho7
      have HM : Hid (MidE w c bv nb L.length w6.heap.size g c6 (w6.heap.size + 1) (.slice a7 E.length c7) E w7) := ⟨HBE.out.keep hb7, ⟨_, HOE.out.keep hb7⟩, HX6.out.keep hb7, HC6.out.keepB hb7 HC6.out.lt, HT6.out.under hb7 HT6.out.size, ho7⟩
      clear ho7 hb7 hE kb6 HO6 HBT6 HC6 HT6 HX6 HOE HBE
      go_wp2_with fail
      go_loopw [6] (fun i wr => ∃ k : Nat, k ≤ E.length ∧ i = .int .i64 k ∧ MidE w c bv nb L.length w6.heap.size g c6 (w6.heap.size + 1) (.slice a7 E.length c7) E wr) (fun i _ => E.length - (intOf i).toNat)
      case atStart => exact ⟨0, Nat.zero_le _, rfl, HM.out⟩
      case round =>
        clear HM
        obtain ⟨k, hk, rfl, hm⟩ := hrel
        have HM := Lib.hid hm
        clear hm
        by_cases hlt : k < E.length
        · obtain ⟨u, v, he, hu, hv, huv⟩ := HEF.out k hlt
          obtain ⟨b, o, c0, A, C, e2, l1, l2, hc⟩ := HM.out.edg.grid.pos (by omega)
          simp only [Value.slice.injEq, true_and] at e2
          obtain ⟨rfl, rfl⟩ := e2
          have hck := (hc k hlt).1
          have hrk := (hc k hlt).2
          rw [he] at hck hrk
          obtain ⟨b2, o2, c2, e3, l3, k0, k1⟩ := rowAt_two hrk
          rw [e3] at hck
          have kg := HM.out.box.box.1
          have hpe : ((u : Int).tmod 2 = (v : Int).tmod 2) ∨ ¬ ((u : Int).tmod 2 = (v : Int).tmod 2) := Classical.em _
          obtain ⟨x, hx⟩ : ∃ x : Int, x = (u : Int) := ⟨_, rfl⟩
          obtain ⟨y, hy⟩ : ∃ y : Int, y = (v : Int) := ⟨_, rfl⟩
          rw [← hx] at k0 hpe
          rw [← hy] at k1 hpe
          have HX := Lib.hid hx
          have HY := Lib.hid hy
          clear hc hrk he e3 hx hy
          rcases hpe with hpar | hpar
          · have hn : ((x.tmod 2) != (y.tmod 2)) = false := by rw [bne_eq_false_iff_eq]; exact hpar
            clear hpar
            go_wp2
            go_quiet (fail)
            go_wp2
            go_roundw
            case rel => exact ⟨k + 1, by omega, by go_num, HM.out.drew hcw (((Drawn.refl _).more _).below _)⟩
            case measure => simp [intOf]; omega
          · have hn : ((x.tmod 2) != (y.tmod 2)) = true := by rw [bne_iff_ne]; exact hpar
            clear hpar
            go_wp2
            go_quiet (fail)
            obtain ⟨wq, hwq, hdq⟩ : ∃ wq, wq = wr.drewN nq ∧ Drawn wr wq := ⟨_, rfl, (Drawn.refl _).more _⟩
            rw [← hwq]
            have HMQ := Lib.hid (HM.out.drew hcw (hdq.below _))
            replace hck := cell_drawn hdq hck
            replace k0 := cell_drawn hdq k0
            replace k1 := cell_drawn hdq k1
            replace kg := cell_drawn hdq kg
            clear hwq hdq HM
            go_wp2_with fail
            go_still_tail 13, (by kernel_rfl)
            change wpList _ _ _ _ _ wq.drew
            have HM5 := Lib.hid (HMQ.out.drew hcw (Below.refl _ _).drew)
            clear HMQ hck k0 k1 kg
            generalize wq.drew = w8 at HM5 ⊢
            rw [HX.out, HY.out]
            go_wp2_with fail
            refine (HM5.out.link hcw (by omega) (by omega) (by omega) (by omega) u v hu hv huv).mono ?_
            rintro e w9 ⟨rfl, kb9, kf9, hm9⟩
            have HM9 := Lib.hid hm9
            clear hm9
            go_wp2
            go_roundw
            case rel => exact ⟨k + 1, by omega, by go_num, HM9.out⟩
            case measure => simp [intOf]; omega
        · obtain rfl : k = E.length := by omega
          obtain ⟨M, hM⟩ := HM.out.own
          have hmid : MidG w c bv nb w6.heap.size wr := ⟨_, L.length, _, c6, HM.out.box, hM, HM.out.res, HM.out.cur, HM.out.bel, hn17⟩
          obtain ⟨n8, a8, cap8, kb8, k08, f08, q08, hp8⟩ := hmid.done hcw
          have HP := Lib.hid hp8
          have HQ := Lib.hid q08
          clear hmid hp8 q08 hM
          go_wp2
          exact bodyPost_ret (v := .agg #[.slice a8 n8 cap8]) (by simp [results, Tryd.results24, go_sem, HQ.out]) rfl HP.out
    · rw [decide_eq_false hG]
      have hmid : MidG w c bv nb w1.heap.size w4 := ⟨_, L.length, _, cap, HBT4.out, HO4.out, HX4.out, HC4.out, HT4.out, hn17⟩
      obtain ⟨n8, a8, cap8, kb8, k08, f08, q08, hp8⟩ := hmid.done hcw
      have HP := Lib.hid hp8
      have HQ := Lib.hid q08
      clear hmid hp8 q08
      go_wp2
      exact bodyPost_ret (v := .agg #[.slice a8 n8 cap8]) (by simp [results, Tryd.results24, go_sem, HQ.out]) rfl HP.out

theorem drawSidesOf_any (n : Nat) (bv : Value) (w : World) (hb : BytesAt w w.heap.size bv n) : Calls Tryd.prog 6 #[bv] w (GaveSome w) := by
  have hb0 : Below w.heap.size w (w.alloc (.cells #[.slice none 0 0] 26)) := (Below.refl _ _).alloc (Nat.le_refl _) _
  have hbx0 : BoxAt (w.alloc (.cells #[.slice none 0 0] 26)) w.heap.size (.slice none 0 0) := BoxAt.new _ _ _
  have hby0 : BytesAt (w.alloc (.cells #[.slice none 0 0] 26)) (w.alloc (.cells #[.slice none 0 0] 26)).heap.size bv n := (hb.keepB hb0 (Nat.le_refl _)).wide (by simp)
  have HB0 := Lib.hid hb0
  have HBX0 := Lib.hid hbx0
  have HBY0 := Lib.hid hby0
  clear hb hb0 hbx0 hby0
  go_enter Tryd.func6, Tryd.ntmps6
  go_wp2_with fail
  refine (l1New_any n bv _ HBY0.out).mono ?_
  rintro e w1 ⟨rfl, hc1, hb1⟩
  have HB1 : Hid (Below w.heap.size w w1) := HB0.out.trans (hb1.mono HB0.out.size)
  have HX1 : Hid (BoxAt w1 w.heap.size (.slice none 0 0)) := HBX0.out.keep hb1
  have HY1 := Lib.hid (HBY0.out.keepB hb1 (Nat.le_refl _))
  rw [size_alloc1] at hc1 HY1
  have HC1 := Lib.hid hc1
  have hs1 := hc1.lt
  clear hc1 hb1 HBY0
  go_wp2_with fail
  refine (l3Draw_any (w.heap.size + 1) n bv w1 HC1.out HY1.out).mono ?_
  rintro e w2 ⟨L, m, a, cap, rfl, ho2, hc2, ht2, -⟩
  have hx2 := HX1.out.touched ht2 (by omega) (by omega)
  have kx := hx2.1
  have fx := hx2.2
  have HQ := Lib.hid (cell_set_same (.slice a m cap) hx2.1)
  have HO := Lib.hid ho2
  have HB2 : Hid (Below w.heap.size w w2) := HB1.out.trans ((ht2.below (by omega)).mono (by omega))
  clear hx2 ho2 hc2 ht2
  go_wp2
  refine bodyPost_ret (v := .agg #[.slice a m cap]) (by simp [results, Tryd.results6, go_sem, HQ.out]) rfl ⟨L, m, a, cap, rfl, ?_, HB2.out.setCell (Nat.le_refl _) _⟩
  exact (HO.out.setBelow (by simp; omega) _).mono (by omega)

theorem drawLeastLoop_any (n : Nat) (bv : Value) (w : World) (hb : BytesAt w w.heap.size bv n) : Calls Tryd.prog 15 #[bv] w (GaveSome w) := by
  have hb0 : Below w.heap.size w (w.alloc (.cells #[.slice none 0 0] 26)) := (Below.refl _ _).alloc (Nat.le_refl _) _
  have hbx0 : BoxAt (w.alloc (.cells #[.slice none 0 0] 26)) w.heap.size (.slice none 0 0) := BoxAt.new _ _ _
  have hby0 : BytesAt (w.alloc (.cells #[.slice none 0 0] 26)) (w.alloc (.cells #[.slice none 0 0] 26)).heap.size bv n := (hb.keepB hb0 (Nat.le_refl _)).wide (by simp)
  have HB0 := Lib.hid hb0
  have HBX0 := Lib.hid hbx0
  have HBY0 := Lib.hid hby0
  clear hb hb0 hbx0 hby0
  go_enter Tryd.func15, Tryd.ntmps15
  go_wp2_with fail
  refine (l1New_any n bv _ HBY0.out).mono ?_
  rintro e w1 ⟨rfl, hc1, hb1⟩
  have HB1 : Hid (Below w.heap.size w w1) := HB0.out.trans (hb1.mono HB0.out.size)
  have HX1 : Hid (BoxAt w1 w.heap.size (.slice none 0 0)) := HBX0.out.keep hb1
  have HY1 := Lib.hid (HBY0.out.keepB hb1 (Nat.le_refl _))
  rw [size_alloc1] at hc1 HY1
  have HC1 := Lib.hid hc1
  have hs1 := hc1.lt
  clear hc1 hb1 HBY0
  go_wp2_with fail
  refine (l3Draw_any (w.heap.size + 1) n bv w1 HC1.out HY1.out).mono ?_
  rintro e w2 ⟨L, m, a, cap, rfl, ho2, hc2, ht2, -⟩
  have hx2 := HX1.out.touched ht2 (by omega) (by omega)
  have kx := hx2.1
  have fx := hx2.2
  have HQ := Lib.hid (cell_set_same (.slice a m cap) hx2.1)
  have HO := Lib.hid ho2
  have HB2 : Hid (Below w.heap.size w w2) := HB1.out.trans ((ht2.below (by omega)).mono (by omega))
  clear hx2 ho2 hc2 ht2
  go_wp2
  refine bodyPost_ret (v := .agg #[.slice a m cap]) (by simp [results, Tryd.results15, go_sem, HQ.out]) rfl ⟨L, m, a, cap, rfl, ?_, HB2.out.setCell (Nat.le_refl _) _⟩
  exact (HO.out.setBelow (by simp; omega) _).mono (by omega)

end Go.Proofs.YtnjkhiheapmlmaaDoor
