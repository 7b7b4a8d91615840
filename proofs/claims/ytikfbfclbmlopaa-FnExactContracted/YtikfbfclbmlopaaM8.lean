/- Walks: a vertex cut. -/
import Derived.Test.YtikfbfclbmlopaaM7
namespace Go.Proofs.Ytikfbfclbmlopaa
open Go.RowKit

/-- May this vertex be cut? -/
def cutB (L : List (List Int)) (x : Int) : Bool := decide (GraphP L) && inB x 0 ((L.length : Int) - 1) && !((L.length : Int) == 1)
theorem cutB_yes {L : List (List Int)} {x : Int} (h : cutB L x = true) : GraphP L ∧ 0 ≤ x ∧ x < (L.length : Int) ∧ 2 ≤ L.length ∧ L.length ≤ 16 := by
  unfold cutB inB at h
  simp at h
  have := h.1.1.1
  exact ⟨h.1.1, h.1.2.1, by omega, by omega, by omega⟩
/-- The graph without the vertex. -/
def cutL (L : List (List Int)) (x : Int) : List (List Int) := pickL L (restL L.length x.toNat) (cutB L x)
theorem cutL_small (L : List (List Int)) (x : Int) : Small (cutL L x) := pickL_small (fun _ => restL_len _ _)
theorem cutL_no {L : List (List Int)} {x : Int} (h : cutB L x = false) : cutL L x = [] := by rw [cutL, h]; rfl

set_option maxHeartbeats 1600000 in
theorem without_any (g n x : Nat) (M : Nat → Nat) (R : Nat → Nat → Bool) (w : World) (h : NetBlk 71 w g n M) (hM : ∀ i, M i < 65536) (hn : n ≤ 16) (hx : x < n) (h2 : 2 ≤ n)
    (hR : ∀ i j, i < (restL n x).length → j < (restL n x).length → R i j = hasM (M (nth (restL n x) i).toNat) (nth (restL n x) j)) (hsym : ∀ i j, R i j = R j i) (hloop : ∀ i, R i i = false) (hrange : ∀ i j, R i j = true → i < (restL n x).length ∧ j < (restL n x).length) :
    Calls Try.prog 100 #[.pointer (some ⟨g, 0, none⟩), .int .i64 (x : Int)] w (GaveGraph w (adjL (restL n x).length R)) := by
  have hg := h.lt
  have kn := h.at.1
  have hx16 : (x : Int) < 16 := by omega
  have b0 : BoxAt (w.alloc (.cells #[.slice none 0 0] 26)) w.heap.size (.slice none 0 0) := BoxAt.new _ _ _
  have hb0 : Below w.heap.size w (w.alloc (.cells #[.slice none 0 0] 26)) := (Below.refl _ _).alloc (Nat.le_refl _) _
  have kn0 := cell_keep hb0 kn
  have BX0 := Lib.hid b0
  have HB0 := Lib.hid hb0
  have H := Lib.hid h
  have HM := Lib.hid hM
  have HR := Lib.hid hR
  have HSY := Lib.hid hsym
  have HLO := Lib.hid hloop
  have HRA := Lib.hid hrange
  have hw := whole_lt hn
  have HRL : Hid (listM (clrM (2 ^ n - 1) (2 ^ x)) = restL n x) := rfl
  clear h hM hR hsym hloop hrange b0 hb0 kn
  go_enter Try.func100, Try.ntmps100
  go_wp2_with fail
  refine (wholeMask_any n _ hn).mono ?_
  rintro e w1 ⟨rfl, rfl⟩
  have hb1 : Below w.heap.size w ((w.alloc (.cells #[.slice none 0 0] 26)).alloc (.cells #[.int .u32 ((2 ^ n - 1 : Nat) : Int)] 68)) := HB0.out.alloc (by simp) _
  have bx1 : BoxAt ((w.alloc (.cells #[.slice none 0 0] 26)).alloc (.cells #[.int .u32 ((2 ^ n - 1 : Nat) : Int)] 68)) w.heap.size (.slice none 0 0) := BX0.out.keep ((Below.refl _ _).alloc (Nat.le_refl _) _)
  have bm1 : BoxAt ((w.alloc (.cells #[.slice none 0 0] 26)).alloc (.cells #[.int .u32 ((2 ^ n - 1 : Nat) : Int)] 68)) (w.heap.size + 1) (.int .u32 ((2 ^ n - 1 : Nat) : Int)) := by
    have := BoxAt.new (w.alloc (.cells #[.slice none 0 0] 26)) (.int .u32 ((2 ^ n - 1 : Nat) : Int)) 68
    rwa [size_alloc1] at this
  have HB1 := Lib.hid hb1
  have BX1 := Lib.hid bx1
  have BM1 := Lib.hid bm1
  clear hb1 bx1 bm1 kn0
  go_wp2_with fail
  refine (cut_any (w.heap.size + 1) 0 _ (x : Int) _ BM1.out.1 BM1.out.2 hw (by omega) hx16).mono ?_
  rintro e w2 ⟨rfl, hd2⟩
  rw [Int.toNat_natCast] at hd2
  have BM2 : Hid (BoxAt w2 (w.heap.size + 1) (.int .u32 ((clrM (2 ^ n - 1) (2 ^ x) : Nat) : Int))) := (BM1.out.set _).keep (hd2.below _)
  have BX2 : Hid (BoxAt w2 w.heap.size (.slice none 0 0)) := (BX1.out.setOther (by simp) _).keep (hd2.below _)
  have HB2 : Hid (Below w.heap.size w w2) := (HB1.out.setCell (by simp) _).trans (hd2.below _)
  have km := BM2.out.1
  clear hd2
  go_wp2_with fail
  refine (list_any _ _ (clrM_lt _ hw)).mono ?_
  rintro e w3 ⟨n3, a3, c3, rfl, ho3, hb3⟩
  rw [HRL.out] at ho3
  obtain rfl : n3 = (restL n x).length := by
    obtain ⟨a4, c4, e4⟩ := ho3.row.slice
    simp only [Value.slice.injEq] at e4
    exact e4.2.1
  have HB3 : Hid (Below w.heap.size w w3) := HB2.out.trans (hb3.mono HB2.out.size)
  have BX3 := Lib.hid (BX2.out.keep hb3)
  have HO3 := Lib.hid ho3
  clear ho3 hb3 km
  go_wp2_with fail
  refine (picked_any g n M _ (restL n x) R _ (H.out.keep HB3.out) HM.out HO3.out.row (restL_pos hn hx h2) (restL_len n x) (fun i hi => by have := restL_in hn hx i hi; omega) HR.out HSY.out HLO.out HRA.out).mono ?_
  rintro e w4 ⟨n4, a4, c4, rfl, ho4, hb4⟩
  have kr := (BX3.out.keep hb4).1
  have kf := (BX3.out.keep hb4).2
  have hlt := BX3.out.lt
  have HO4 := Lib.hid ho4
  have HB4 : Hid (Below w.heap.size w w4) := HB3.out.trans (hb4.mono HB3.out.size)
  clear ho4 hb4
  go_wp2
  have q0 : (w4.setCell ⟨w.heap.size, 0, none⟩ (.slice a4 n4 c4)).cell? ⟨w.heap.size, 0, none⟩ = some (.slice a4 n4 c4) := cell_set_same _ kr
  refine bodyPost_ret (v := .agg #[.slice a4 n4 c4]) (by simp [results, Try.results100, go_sem, q0]) rfl ⟨n4, a4, c4, rfl, ?_, HB4.out.setCell (by simp) _⟩
  exact (HO4.out.setBelow (by simp; omega) _).mono (by omega)

set_option maxHeartbeats 1600000 in
theorem implCutVertex_any (v : Value) (L : List (List Int)) (x : Int) (w : World) (h : GridAt w v L) (_hx : I64 x) : Calls Try.prog 45 #[.agg #[v], .int .i64 x] w (GaveGB w (cutL L x) (cutB L x)) := by
  obtain ⟨a0, c0, rfl⟩ := h.slice
  have T0 := Lib.hid (Two.start w (.slice a0 L.length c0))
  have HGK : Hid (∀ w', Below w.heap.size w w' → GridAt w' (.slice a0 L.length c0) L) := fun w' hb => h.keep hb
  clear h
  go_enter Try.func45, Try.ntmps45
  go_wp2_with fail
  refine (netOf_any _ _ _ (HGK.out _ T0.out.bel)).mono ?_
  rintro e w2 ⟨rfl, hb2⟩
  have T2 := Lib.hid (T0.out.keep hb2)
  have hnb := netBlk_new w2 0 (fun _ => 0)
  clear hb2 T0
  by_cases hG : GraphP L
  · have hz := hG.1
    have HG := Lib.hid hG
    rw [decide_eq_true hG, netArr_yes hG]
    by_cases hu : 0 ≤ x ∧ x < (L.length : Int)
    · have hin : inB x 0 ((L.length : Int) - 1) = true := by unfold inB; rw [decide_eq_true_iff]; omega
      have hdu : decide (0 ≤ x ∧ x < (L.length : Int)) = true := by simpa using hu
      have HDU := Lib.hid hdu
      obtain ⟨y, rfl⟩ : ∃ y : Nat, x = (y : Int) := ⟨x.toNat, by omega⟩
      by_cases h1 : L.length = 1
      · have HI : Hid (cutB L (y : Int) = false) := by show cutB L _ = false; unfold cutB; rw [h1]; simp
        have he : ((L.length : Int) == 1) = true := by rw [h1]; rfl
        clear hG hdu hin hu h1
        go_wp2_with (first | (refine wpList_store_net rfl 71 (.tmp 6) (.tmp 11) rfl w2.heap.size L.length (rowM L) rfl rfl Try.sizeNet 0 (fun _ => 0) hnb ?_; intro w3 hp; have kn3 := hp.net.at.1; have T3 := Lib.hid (T2.out.put hp); have kr := T3.out.res.1; have kf := T3.out.res.2; clear hp) | (go_at_call 84; refine (isVertex_any _ _ _).mono ?_; rintro e w' ⟨rfl, rfl⟩; rw [HDU.out]))
        exact bodyPost_ret (v := .tuple #[.agg #[.slice none 0 0], .bool false]) (by simp [results, Try.results45, go_sem, T3.out.q0]) rfl (T3.out.no (cutL_no HI.out) HI.out)
      · have HI : Hid (cutB L (y : Int) = true) := by show cutB L _ = true; unfold cutB; rw [decide_eq_true hG, hin]; simp; omega
        have he : ((L.length : Int) == 1) = false := by rw [beq_eq_false_iff_ne]; omega
        have hy : y < L.length := by omega
        have h2 : 2 ≤ L.length := by omega
        have HXI : Hid (InP L (restL L.length y)) := fun i hi => restL_in hz.2 hy i hi
        clear hG hdu hin hu h1
        go_wp2_with (first | (refine wpList_store_net rfl 71 (.tmp 6) (.tmp 11) rfl w2.heap.size L.length (rowM L) rfl rfl Try.sizeNet 0 (fun _ => 0) hnb ?_; intro w3 hp; have kn3 := hp.net.at.1; have HN3 := Lib.hid hp.net; have T3 := Lib.hid (T2.out.put hp); clear hp) | (go_at_call 84; refine (isVertex_any _ _ _).mono ?_; rintro e w' ⟨rfl, rfl⟩; rw [HDU.out]))
        refine (without_any w2.heap.size L.length y (rowM L) (pickA L (restL L.length y)) _ HN3.out (fun i => rowM_lt (by omega) (fun v hv => (HG.out.2.1 v hv).1) i) hz.2 hy h2 (pickA_impl HG.out HXI.out) (pickA_sym HG.out _) (pickA_self HG.out _) (fun i j => pickA_range)).mono ?_
        rintro e w4 ⟨n4, a4, c4, rfl, ho4, hb4⟩
        have T4 := Lib.hid (T3.out.keep hb4)
        have kr := T4.out.res.1
        have kf := T4.out.res.2
        have HO4 := Lib.hid ho4
        clear ho4 hb4 kn3
        go_wp2
        refine bodyPost_ret (v := .tuple #[.agg #[.slice a4 n4 c4], .bool true]) (by simp [results, Try.results45, go_sem, T4.out.q0]) rfl (T4.out.yes (B := w3.heap.size) ?_ T3.out.lt HI.out)
        rw [cutL, pickL, if_pos HI.out, Int.toNat_natCast]
        exact HO4.out
    · have HI : Hid (cutB L x = false) := by
        show cutB L x = false
        have : inB x 0 ((L.length : Int) - 1) = false := by unfold inB; rw [decide_eq_false_iff_not]; omega
        unfold cutB; rw [this]; simp
      have hdu : decide (0 ≤ x ∧ x < (L.length : Int)) = false := by simpa using hu
      have HDU := Lib.hid hdu
      clear hG hdu hu
      go_wp2_with (first | (refine wpList_store_net rfl 71 (.tmp 6) (.tmp 11) rfl w2.heap.size L.length (rowM L) rfl rfl Try.sizeNet 0 (fun _ => 0) hnb ?_; intro w3 hp; have kn3 := hp.net.at.1; have T3 := Lib.hid (T2.out.put hp); have kr := T3.out.res.1; have kf := T3.out.res.2; clear hp) | (go_at_call 84; refine (isVertex_any _ _ _).mono ?_; rintro e w' ⟨rfl, rfl⟩; rw [HDU.out]))
      exact bodyPost_ret (v := .tuple #[.agg #[.slice none 0 0], .bool false]) (by simp [results, Try.results45, go_sem, T3.out.q0]) rfl (T3.out.no (cutL_no HI.out) HI.out)
  · have HI : Hid (cutB L x = false) := by show cutB L x = false; unfold cutB; rw [decide_eq_false hG]; simp
    rw [decide_eq_false hG, netArr_no hG]
    clear hG
    go_wp2_with (first | (refine wpList_store_net rfl 71 (.tmp 6) (.tmp 11) rfl w2.heap.size 0 (fun _ => 0) rfl rfl Try.sizeNet 0 (fun _ => 0) hnb ?_; intro w3 hp; have T3 := Lib.hid (T2.out.put hp); have kr := T3.out.res.1; have kf := T3.out.res.2; clear hp))
    exact bodyPost_ret (v := .tuple #[.agg #[.slice none 0 0], .bool false]) (by simp [results, Try.results45, go_sem, T3.out.q0]) rfl (T3.out.no (cutL_no HI.out) HI.out)

set_option maxHeartbeats 1600000 in
theorem specCutVertex_any (v : Value) (L : List (List Int)) (x : Int) (w : World) (h : GridAt w v L) (_hx : I64 x) : Calls Try.prog 57 #[.agg #[v], .int .i64 x] w (GaveGB w (cutL L x) (cutB L x)) := by
  obtain ⟨a0, c0, rfl⟩ := h.slice
  have T0 := Lib.hid (Two.start w (.slice a0 L.length c0))
  have HGK : Hid (∀ w', Below w.heap.size w w' → GridAt w' (.slice a0 L.length c0) L) := fun w' hb => h.keep hb
  clear h
  go_enter Try.func57, Try.ntmps57
  go_wp2_with fail
  refine (specGraphOk_any _ _ _ (HGK.out _ T0.out.bel)).mono ?_
  rintro e w1 ⟨rfl, hb1⟩
  have T1 := Lib.hid (T0.out.keep hb1)
  clear hb1 T0
  by_cases hG : GraphP L
  · have hz := hG.1
    have HG := Lib.hid hG
    have kb1 := T1.out.arg.1
    rw [decide_eq_true hG]
    clear hG
    go_wp2_with fail
    refine (l1There_any _ L x _ (HGK.out _ T1.out.bel)).mono ?_
    rintro e w2 ⟨rfl, hb2⟩
    have T2 := Lib.hid (T1.out.keep hb2)
    clear hb2 T1 kb1
    by_cases hin : inB x 0 ((L.length : Int) - 1) = true
    · have kb2 := T2.out.arg.1
      have HIN := Lib.hid hin
      have hxx : 0 ≤ x ∧ x ≤ (L.length : Int) - 1 := by simpa [inB] using hin
      rw [hin]
      clear hin
      go_wp2_with fail
      refine (l1Size_any _ L _ (HGK.out _ T2.out.bel)).mono ?_
      rintro e w3 ⟨rfl, hb3⟩
      have T3 := Lib.hid (T2.out.keep hb3)
      clear hb3 T2 kb2
      by_cases h1 : L.length = 1
      · have HI : Hid (cutB L x = false) := by show cutB L _ = false; unfold cutB; rw [h1]; simp
        have he : ((L.length : Int) == 1) = true := by rw [h1]; rfl
        have kr := T3.out.res.1
        have kf := T3.out.res.2
        clear h1
        go_wp2
        exact bodyPost_ret (v := .tuple #[.agg #[.slice none 0 0], .bool false]) (by simp [results, Try.results57, go_sem, T3.out.q0]) rfl (T3.out.no (cutL_no HI.out) HI.out)
      · have HI : Hid (cutB L x = true) := by show cutB L _ = true; unfold cutB; rw [decide_eq_true HG.out, HIN.out]; simp; omega
        have he : ((L.length : Int) == 1) = false := by rw [beq_eq_false_iff_ne]; omega
        obtain ⟨y, rfl⟩ : ∃ y : Nat, x = (y : Int) := ⟨x.toNat, by omega⟩
        have hy : y < L.length := by omega
        have h2 : 2 ≤ L.length := by omega
        have HXI : Hid (InP L (restL L.length y)) := fun i hi => restL_in hz.2 hy i hi
        have HWO := Lib.hid (wo_all hz.2 hy)
        have kb3 := T3.out.arg.1
        have kr3 := T3.out.res.1
        have kf3 := T3.out.res.2
        clear h1 hxx
        go_wp2_with fail
        go_region_held3 (fun wx => wx.cell? ⟨w.heap.size, 0, none⟩ = some (.slice a0 L.length c0)) (first | exact kb3 | exact kba | exact kbb | exact kbc | exact kbd | exact (cell_set_other _ (fun e => by simp at e)).trans kbd)
          (first
            | (go_at_call 72; refine (l1Size_any _ L _ (HGK.out _ T3.out.bel.drew)).mono ?_; rintro e wa ⟨rfl, hba⟩; have TA := Lib.hid ((T3.out.keep (Below.refl _ _).drew).keep hba); have kba := TA.out.arg.1; clear hba)
            | (go_at_call 111; refine (l1All_any L.length _ hz.2).mono ?_; rintro e wb ⟨nb, ab, cb, rfl, hob, hbb⟩; have TB := Lib.hid (TA.out.keep hbb); have kbb := TB.out.arg.1; have HOB := Lib.hid hob; clear hob hbb)
            | (go_at_call 109; refine (l2Without_any _ (allL L.length) (y : Int) _ HOB.out.row (by rw [allL_len]; omega)).mono ?_; rintro e wc ⟨nc, ac, cc, rfl, hoc, hbc⟩; have HOC : Hid (OwnRow 2 wc wb.heap.size (.slice ac nc cc) (restL L.length y)) := (by rw [HWO.out] at hoc; exact hoc); have TC := Lib.hid (TB.out.keep hbc); have kbc := TC.out.arg.1; clear hoc hbc)
            | (go_at_call 110; refine (l2Of_any _ _ L (restL L.length y) (pickA L (restL L.length y)) _ (HGK.out _ TC.out.bel) HOC.out.row (restL_pos hz.2 hy h2) (restL_len _ _) HXI.out (pickA_spec HG.out HXI.out) (pickA_sym HG.out _) (pickA_self HG.out _) (fun i j => pickA_range)).mono ?_; rintro e wd ⟨nd, ad, cd, rfl, hod, hbd⟩; have TD := Lib.hid (TC.out.keep hbd); have kbd := TD.out.arg.1; have krd := TD.out.res.1; have kfd := TD.out.res.2; have HOD := Lib.hid hod; clear hod hbd))
        go_wp2
        refine bodyPost_ret (v := .tuple #[.agg #[.slice ad nd cd], .bool true]) (by simp [results, Try.results57, go_sem, TD.out.q0]) rfl (TD.out.yes (B := wc.heap.size) ?_ TC.out.lt HI.out)
        rw [cutL, pickL, if_pos HI.out, Int.toNat_natCast]
        exact HOD.out
    · have hin' : inB x 0 ((L.length : Int) - 1) = false := by simpa using hin
      have HI : Hid (cutB L x = false) := by show cutB L x = false; unfold cutB; rw [hin']; simp
      have kr := T2.out.res.1
      have kf := T2.out.res.2
      rw [hin']
      clear hin hin'
      go_wp2
      exact bodyPost_ret (v := .tuple #[.agg #[.slice none 0 0], .bool false]) (by simp [results, Try.results57, go_sem, T2.out.q0]) rfl (T2.out.no (cutL_no HI.out) HI.out)
  · have HI : Hid (cutB L x = false) := by show cutB L x = false; unfold cutB; rw [decide_eq_false hG]; simp
    have kr := T1.out.res.1
    have kf := T1.out.res.2
    rw [decide_eq_false hG]
    clear hG
    go_wp2
    exact bodyPost_ret (v := .tuple #[.agg #[.slice none 0 0], .bool false]) (by simp [results, Try.results57, go_sem, T1.out.q0]) rfl (T1.out.no (cutL_no HI.out) HI.out)

end Go.Proofs.Ytikfbfclbmlopaa
