/- The texts M8, M9, N1, joined. -/
import Derived.Test.YtikfbfclbmlopaaQ1
import Derived.Test.YtikfbfclbmlopaaM1
import Derived.Deep.AppendLies
import Derived.Deep.RegionLaw

/- Walks: a vertex cut. -/
namespace Go.Proofs.Ytikfbfclbmlopaa
open Go.RowKit

/-- May this vertex be cut? -/
def cutB (L : List (List Int)) (x : Int) : Bool := decide (GraphP L) && inB x 0 ((L.length : Int) - 1) && !((L.length : Int) == 1)
theorem cutB_yes {L : List (List Int)} {x : Int} (h : cutB L x = true) : GraphP L ∧ 0 ≤ x ∧ x < (L.length : Int) ∧ 2 ≤ L.length ∧ L.length ≤ 16 := by
  unfold cutB inB at h
  simp at h
  have := h.1.1.1
  exact ⟨h.1.1, h.1.2.1, by omega, by omega, by omega⟩
/-- The graph without the vertex. -/
def cutL (L : List (List Int)) (x : Int) : List (List Int) := pickL L (restL L.length x.toNat) (cutB L x)
theorem cutL_small (L : List (List Int)) (x : Int) : Small (cutL L x) := pickL_small (fun _ => restL_len _ _)
theorem cutL_no {L : List (List Int)} {x : Int} (h : cutB L x = false) : cutL L x = [] := by rw [cutL, h]; rfl

set_option maxHeartbeats 1600000 in
theorem without_any (g n x : Nat) (M : Nat → Nat) (R : Nat → Nat → Bool) (w : World) (h : NetBlk 71 w g n M) (hM : ∀ i, M i < 65536) (hn : n ≤ 16) (hx : x < n) (h2 : 2 ≤ n)
    (hR : ∀ i j, i < (restL n x).length → j < (restL n x).length → R i j = hasM (M (nth (restL n x) i).toNat) (nth (restL n x) j)) (hsym : ∀ i j, R i j = R j i) (hloop : ∀ i, R i i = false) (hrange : ∀ i j, R i j = true → i < (restL n x).length ∧ j < (restL n x).length) :
    Calls Try.prog 100 #[.pointer (some ⟨g, 0, none⟩), .int .i64 (x : Int)] w (GaveGraph w (adjL (restL n x).length R)) := by
  have hg := h.lt
  have kn := h.at.1
  have hx16 : (x : Int) < 16 := by omega
  have b0 : BoxAt (w.alloc (.cells #[.slice none 0 0] 26)) w.heap.size (.slice none 0 0) := BoxAt.new _ _ _
  have hb0 : Below w.heap.size w (w.alloc (.cells #[.slice none 0 0] 26)) := (Below.refl _ _).alloc (Nat.le_refl _) _
  have kn0 := cell_keep hb0 kn
  have BX0 := Lib.hid b0
  have HB0 := Lib.hid hb0
  have H := Lib.hid h
  have HM := Lib.hid hM
  have HR := Lib.hid hR
  have HSY := Lib.hid hsym
  have HLO := Lib.hid hloop
  have HRA := Lib.hid hrange
  have hw := whole_lt hn
  have HRL : Hid (listM (clrM (2 ^ n - 1) (2 ^ x)) = restL n x) := rfl
  clear h hM hR hsym hloop hrange b0 hb0 kn
  go_enter Try.func100, Try.ntmps100
  go_wp2_with fail
  refine (wholeMask_any n _ hn).mono ?_
  rintro e w1 ⟨rfl, rfl⟩
  have hb1 : Below w.heap.size w ((w.alloc (.cells #[.slice none 0 0] 26)).alloc (.cells #[.int .u32 ((2 ^ n - 1 : Nat) : Int)] 68)) := HB0.out.alloc (by simp) _
  have bx1 : BoxAt ((w.alloc (.cells #[.slice none 0 0] 26)).alloc (.cells #[.int .u32 ((2 ^ n - 1 : Nat) : Int)] 68)) w.heap.size (.slice none 0 0) := BX0.out.keep ((Below.refl _ _).alloc (Nat.le_refl _) _)
  have bm1 : BoxAt ((w.alloc (.cells #[.slice none 0 0] 26)).alloc (.cells #[.int .u32 ((2 ^ n - 1 : Nat) : Int)] 68)) (w.heap.size + 1) (.int .u32 ((2 ^ n - 1 : Nat) : Int)) := by
    have := BoxAt.new (w.alloc (.cells #[.slice none 0 0] 26)) (.int .u32 ((2 ^ n - 1 : Nat) : Int)) 68
    rwa [size_alloc1] at this
  have HB1 := Lib.hid hb1
  have BX1 := Lib.hid bx1
  have BM1 := Lib.hid bm1
  clear hb1 bx1 bm1 kn0
  go_wp2_with fail
  refine (cut_any (w.heap.size + 1) 0 _ (x : Int) _ BM1.out.1 BM1.out.2 hw (by omega) hx16).mono ?_
  rintro e w2 ⟨rfl, hd2⟩
  rw [Int.toNat_natCast] at hd2
  have BM2 : Hid (BoxAt w2 (w.heap.size + 1) (.int .u32 ((clrM (2 ^ n - 1) (2 ^ x) : Nat) : Int))) := (BM1.out.set _).keep (hd2.below _)
  have BX2 : Hid (BoxAt w2 w.heap.size (.slice none 0 0)) := (BX1.out.setOther (by simp) _).keep (hd2.below _)
  have HB2 : Hid (Below w.heap.size w w2) := (HB1.out.setCell (by simp) _).trans (hd2.below _)
  have km := BM2.out.1
  clear hd2
  go_wp2_with fail
  refine (list_any _ _ (clrM_lt _ hw)).mono ?_
  rintro e w3 ⟨n3, a3, c3, rfl, ho3, hb3⟩
  rw [HRL.out] at ho3
  obtain rfl : n3 = (restL n x).length := by
    obtain ⟨a4, c4, e4⟩ := ho3.row.slice
    simp only [Value.slice.injEq] at e4
    exact e4.2.1
  have HB3 : Hid (Below w.heap.size w w3) := HB2.out.trans (hb3.mono HB2.out.size)
  have BX3 := Lib.hid (BX2.out.keep hb3)
  have HO3 := Lib.hid ho3
  clear ho3 hb3 km
  go_wp2_with fail
  refine (picked_any g n M _ (restL n x) R _ (H.out.keep HB3.out) HM.out HO3.out.row (restL_pos hn hx h2) (restL_len n x) (fun i hi => by have := restL_in hn hx i hi; omega) HR.out HSY.out HLO.out HRA.out).mono ?_
  rintro e w4 ⟨n4, a4, c4, rfl, ho4, hb4⟩
  have kr := (BX3.out.keep hb4).1
  have kf := (BX3.out.keep hb4).2
  have hlt := BX3.out.lt
  have HO4 := Lib.hid ho4
  have HB4 : Hid (Below w.heap.size w w4) := HB3.out.trans (hb4.mono HB3.out.size)
  clear ho4 hb4
  go_wp2
  have q0 : (w4.setCell ⟨w.heap.size, 0, none⟩ (.slice a4 n4 c4)).cell? ⟨w.heap.size, 0, none⟩ = some (.slice a4 n4 c4) := cell_set_same _ kr
  refine bodyPost_ret (v := .agg #[.slice a4 n4 c4]) (by simp [results, Try.results100, go_sem, q0]) rfl ⟨n4, a4, c4, rfl, ?_, HB4.out.setCell (by simp) _⟩
  exact (HO4.out.setBelow (by simp; omega) _).mono (by omega)

set_option maxHeartbeats 1600000 in
theorem implCutVertex_any (v : Value) (L : List (List Int)) (x : Int) (w : World) (h : GridAt w v L) (_hx : I64 x) : Calls Try.prog 45 #[.agg #[v], .int .i64 x] w (GaveGB w (cutL L x) (cutB L x)) := by
  obtain ⟨a0, c0, rfl⟩ := h.slice
  have T0 := Lib.hid (Two.start w (.slice a0 L.length c0))
  have HGK : Hid (∀ w', Below w.heap.size w w' → GridAt w' (.slice a0 L.length c0) L) := fun w' hb => h.keep hb
  clear h
  go_enter Try.func45, Try.ntmps45
  go_wp2_with fail
  refine (netOf_any _ _ _ (HGK.out _ T0.out.bel)).mono ?_
  rintro e w2 ⟨rfl, hb2⟩
  have T2 := Lib.hid (T0.out.keep hb2)
  have hnb := netBlk_new w2 0 (fun _ => 0)
  clear hb2 T0
  by_cases hG : GraphP L
  · have hz := hG.1
    have HG := Lib.hid hG
    rw [decide_eq_true hG, netArr_yes hG]
    by_cases hu : 0 ≤ x ∧ x < (L.length : Int)
    · have hin : inB x 0 ((L.length : Int) - 1) = true := by unfold inB; rw [decide_eq_true_iff]; omega
      have hdu : decide (0 ≤ x ∧ x < (L.length : Int)) = true := by simpa using hu
      have HDU := Lib.hid hdu
      obtain ⟨y, rfl⟩ : ∃ y : Nat, x = (y : Int) := ⟨x.toNat, by omega⟩
      by_cases h1 : L.length = 1
      · have HI : Hid (cutB L (y : Int) = false) := by show cutB L _ = false; unfold cutB; rw [h1]; simp
        have he : ((L.length : Int) == 1) = true := by rw [h1]; rfl
        clear hG hdu hin hu h1
        go_wp2_with (first | (refine wpList_store_net rfl 71 (.tmp 6) (.tmp 11) rfl w2.heap.size L.length (rowM L) rfl rfl Try.sizeNet 0 (fun _ => 0) hnb ?_; intro w3 hp; have kn3 := hp.net.at.1; have T3 := Lib.hid (T2.out.put hp); have kr := T3.out.res.1; have kf := T3.out.res.2; clear hp) | (go_at_call 84; refine (isVertex_any _ _ _).mono ?_; rintro e w' ⟨rfl, rfl⟩; rw [HDU.out]))
        exact bodyPost_ret (v := .tuple #[.agg #[.slice none 0 0], .bool false]) (by simp [results, Try.results45, go_sem, T3.out.q0]) rfl (T3.out.no (cutL_no HI.out) HI.out)
      · have HI : Hid (cutB L (y : Int) = true) := by show cutB L _ = true; unfold cutB; rw [decide_eq_true hG, hin]; simp; omega
        have he : ((L.length : Int) == 1) = false := by rw [beq_eq_false_iff_ne]; omega
        have hy : y < L.length := by omega
        have h2 : 2 ≤ L.length := by omega
        have HXI : Hid (InP L (restL L.length y)) := fun i hi => restL_in hz.2 hy i hi
        clear hG hdu hin hu h1
        go_wp2_with (first | (refine wpList_store_net rfl 71 (.tmp 6) (.tmp 11) rfl w2.heap.size L.length (rowM L) rfl rfl Try.sizeNet 0 (fun _ => 0) hnb ?_; intro w3 hp; have kn3 := hp.net.at.1; have HN3 := Lib.hid hp.net; have T3 := Lib.hid (T2.out.put hp); clear hp) | (go_at_call 84; refine (isVertex_any _ _ _).mono ?_; rintro e w' ⟨rfl, rfl⟩; rw [HDU.out]))
        refine (without_any w2.heap.size L.length y (rowM L) (pickA L (restL L.length y)) _ HN3.out (fun i => rowM_lt (by omega) (fun v hv => (HG.out.2.1 v hv).1) i) hz.2 hy h2 (pickA_impl HG.out HXI.out) (pickA_sym HG.out _) (pickA_self HG.out _) (fun i j => pickA_range)).mono ?_
        rintro e w4 ⟨n4, a4, c4, rfl, ho4, hb4⟩
        have T4 := Lib.hid (T3.out.keep hb4)
        have kr := T4.out.res.1
        have kf := T4.out.res.2
        have HO4 := Lib.hid ho4
        clear ho4 hb4 kn3
        go_wp2
        refine bodyPost_ret (v := .tuple #[.agg #[.slice a4 n4 c4], .bool true]) (by simp [results, Try.results45, go_sem, T4.out.q0]) rfl (T4.out.yes (B := w3.heap.size) ?_ T3.out.lt HI.out)
        rw [cutL, pickL, if_pos HI.out, Int.toNat_natCast]
        exact HO4.out
    · have HI : Hid (cutB L x = false) := by
        show cutB L x = false
        have : inB x 0 ((L.length : Int) - 1) = false := by unfold inB; rw [decide_eq_false_iff_not]; omega
        unfold cutB; rw [this]; simp
      have hdu : decide (0 ≤ x ∧ x < (L.length : Int)) = false := by simpa using hu
      have HDU := Lib.hid hdu
      clear hG hdu hu
      go_wp2_with (first | (refine wpList_store_net rfl 71 (.tmp 6) (.tmp 11) rfl w2.heap.size L.length (rowM L) rfl rfl Try.sizeNet 0 (fun _ => 0) hnb ?_; intro w3 hp; have kn3 := hp.net.at.1; have T3 := Lib.hid (T2.out.put hp); have kr := T3.out.res.1; have kf := T3.out.res.2; clear hp) | (go_at_call 84; refine (isVertex_any _ _ _).mono ?_; rintro e w' ⟨rfl, rfl⟩; rw [HDU.out]))
      exact bodyPost_ret (v := .tuple #[.agg #[.slice none 0 0], .bool false]) (by simp [results, Try.results45, go_sem, T3.out.q0]) rfl (T3.out.no (cutL_no HI.out) HI.out)
  · have HI : Hid (cutB L x = false) := by show cutB L x = false; unfold cutB; rw [decide_eq_false hG]; simp
    rw [decide_eq_false hG, netArr_no hG]
    clear hG
    go_wp2_with (first | (refine wpList_store_net rfl 71 (.tmp 6) (.tmp 11) rfl w2.heap.size 0 (fun _ => 0) rfl rfl Try.sizeNet 0 (fun _ => 0) hnb ?_; intro w3 hp; have T3 := Lib.hid (T2.out.put hp); have kr := T3.out.res.1; have kf := T3.out.res.2; clear hp))
    exact bodyPost_ret (v := .tuple #[.agg #[.slice none 0 0], .bool false]) (by simp [results, Try.results45, go_sem, T3.out.q0]) rfl (T3.out.no (cutL_no HI.out) HI.out)

set_option maxHeartbeats 1600000 in
theorem specCutVertex_any (v : Value) (L : List (List Int)) (x : Int) (w : World) (h : GridAt w v L) (_hx : I64 x) : Calls Try.prog 57 #[.agg #[v], .int .i64 x] w (GaveGB w (cutL L x) (cutB L x)) := by
  obtain ⟨a0, c0, rfl⟩ := h.slice
  have T0 := Lib.hid (Two.start w (.slice a0 L.length c0))
  have HGK : Hid (∀ w', Below w.heap.size w w' → GridAt w' (.slice a0 L.length c0) L) := fun w' hb => h.keep hb
  clear h
  go_enter Try.func57, Try.ntmps57
  go_wp2_with fail
  refine (specGraphOk_any _ _ _ (HGK.out _ T0.out.bel)).mono ?_
  rintro e w1 ⟨rfl, hb1⟩
  have T1 := Lib.hid (T0.out.keep hb1)
  clear hb1 T0
  by_cases hG : GraphP L
  · have hz := hG.1
    have HG := Lib.hid hG
    have kb1 := T1.out.arg.1
    rw [decide_eq_true hG]
    clear hG
    go_wp2_with fail
    refine (l1There_any _ L x _ (HGK.out _ T1.out.bel)).mono ?_
    rintro e w2 ⟨rfl, hb2⟩
    have T2 := Lib.hid (T1.out.keep hb2)
    clear hb2 T1 kb1
    by_cases hin : inB x 0 ((L.length : Int) - 1) = true
    · have kb2 := T2.out.arg.1
      have HIN := Lib.hid hin
      have hxx : 0 ≤ x ∧ x ≤ (L.length : Int) - 1 := by simpa [inB] using hin
      rw [hin]
      clear hin
      go_wp2_with fail
      refine (l1Size_any _ L _ (HGK.out _ T2.out.bel)).mono ?_
      rintro e w3 ⟨rfl, hb3⟩
      have T3 := Lib.hid (T2.out.keep hb3)
      clear hb3 T2 kb2
      by_cases h1 : L.length = 1
      · have HI : Hid (cutB L x = false) := by show cutB L _ = false; unfold cutB; rw [h1]; simp
        have he : ((L.length : Int) == 1) = true := by rw [h1]; rfl
        have kr := T3.out.res.1
        have kf := T3.out.res.2
        clear h1
        go_wp2
        exact bodyPost_ret (v := .tuple #[.agg #[.slice none 0 0], .bool false]) (by simp [results, Try.results57, go_sem, T3.out.q0]) rfl (T3.out.no (cutL_no HI.out) HI.out)
      · have HI : Hid (cutB L x = true) := by show cutB L _ = true; unfold cutB; rw [decide_eq_true HG.out, HIN.out]; simp; omega
        have he : ((L.length : Int) == 1) = false := by rw [beq_eq_false_iff_ne]; omega
        obtain ⟨y, rfl⟩ : ∃ y : Nat, x = (y : Int) := ⟨x.toNat, by omega⟩
        have hy : y < L.length := by omega
        have h2 : 2 ≤ L.length := by omega
        have HXI : Hid (InP L (restL L.length y)) := fun i hi => restL_in hz.2 hy i hi
        have HWO := Lib.hid (wo_all hz.2 hy)
        have kb3 := T3.out.arg.1
        have kr3 := T3.out.res.1
        have kf3 := T3.out.res.2
        clear h1 hxx
        go_wp2_with fail
        go_region_held3 (fun wx => wx.cell? ⟨w.heap.size, 0, none⟩ = some (.slice a0 L.length c0)) (first | exact kb3 | exact kba | exact kbb | exact kbc | exact kbd | exact (cell_set_other _ (fun e => by simp at e)).trans kbd)
          (first
            | (go_at_call 72; refine (l1Size_any _ L _ (HGK.out _ T3.out.bel.drew)).mono ?_; rintro e wa ⟨rfl, hba⟩; have TA := Lib.hid ((T3.out.keep (Below.refl _ _).drew).keep hba); have kba := TA.out.arg.1; clear hba)
            | (go_at_call 111; refine (l1All_any L.length _ hz.2).mono ?_; rintro e wb ⟨nb, ab, cb, rfl, hob, hbb⟩; have TB := Lib.hid (TA.out.keep hbb); have kbb := TB.out.arg.1; have HOB := Lib.hid hob; clear hob hbb)
            | (go_at_call 109; refine (l2Without_any _ (allL L.length) (y : Int) _ HOB.out.row (by rw [allL_len]; omega)).mono ?_; rintro e wc ⟨nc, ac, cc, rfl, hoc, hbc⟩; have HOC : Hid (OwnRow 2 wc wb.heap.size (.slice ac nc cc) (restL L.length y)) := (by rw [HWO.out] at hoc; exact hoc); have TC := Lib.hid (TB.out.keep hbc); have kbc := TC.out.arg.1; clear hoc hbc)
            | (go_at_call 110; refine (l2Of_any _ _ L (restL L.length y) (pickA L (restL L.length y)) _ (HGK.out _ TC.out.bel) HOC.out.row (restL_pos hz.2 hy h2) (restL_len _ _) HXI.out (pickA_spec HG.out HXI.out) (pickA_sym HG.out _) (pickA_self HG.out _) (fun i j => pickA_range)).mono ?_; rintro e wd ⟨nd, ad, cd, rfl, hod, hbd⟩; have TD := Lib.hid (TC.out.keep hbd); have kbd := TD.out.arg.1; have krd := TD.out.res.1; have kfd := TD.out.res.2; have HOD := Lib.hid hod; clear hod hbd))
        go_wp2
        refine bodyPost_ret (v := .tuple #[.agg #[.slice ad nd cd], .bool true]) (by simp [results, Try.results57, go_sem, TD.out.q0]) rfl (TD.out.yes (B := wc.heap.size) ?_ TC.out.lt HI.out)
        rw [cutL, pickL, if_pos HI.out, Int.toNat_natCast]
        exact HOD.out
    · have hin' : inB x 0 ((L.length : Int) - 1) = false := by simpa using hin
      have HI : Hid (cutB L x = false) := by show cutB L x = false; unfold cutB; rw [hin']; simp
      have kr := T2.out.res.1
      have kf := T2.out.res.2
      rw [hin']
      clear hin hin'
      go_wp2
      exact bodyPost_ret (v := .tuple #[.agg #[.slice none 0 0], .bool false]) (by simp [results, Try.results57, go_sem, T2.out.q0]) rfl (T2.out.no (cutL_no HI.out) HI.out)
  · have HI : Hid (cutB L x = false) := by show cutB L x = false; unfold cutB; rw [decide_eq_false hG]; simp
    have kr := T1.out.res.1
    have kf := T1.out.res.2
    rw [decide_eq_false hG]
    clear hG
    go_wp2
    exact bodyPost_ret (v := .tuple #[.agg #[.slice none 0 0], .bool false]) (by simp [results, Try.results57, go_sem, T1.out.q0]) rfl (T1.out.no (cutL_no HI.out) HI.out)

end Go.Proofs.Ytikfbfclbmlopaa

/- Walks: the model's copy of a graph. -/
namespace Go.Proofs.Ytikfbfclbmlopaa
open Go.RowKit

/-- The boxes of the model's copy at work. -/
structure CopyWork (w0 : World) (v : Value) (L : List (List Int)) (k : Nat) (w : World) : Prop where
  arg : BoxAt w w0.heap.size v
  res : BoxAt w (w0.heap.size + 1) (.slice none 0 0)
  out : ∃ a c, BoxAt w (w0.heap.size + 1 + 1) (.slice a k c) ∧ OwnGrid 2 34 w (w0.heap.size + 1 + 1 + 1) (.slice a k c) (L.take k)
  bel : Below w0.heap.size w0 w
  size : w0.heap.size + 1 + 1 + 1 ≤ w.heap.size

theorem take_snocR {L : List (List Int)} {k : Nat} (h : k < L.length) : L.take (k + 1) = L.take k ++ [nthR L k] := by
  rw [List.take_succ_eq_append_getElem h, nthR_eq h]

/-- A row laid, its box laid, the grid grown by it, put back: the copy has one row more. -/
theorem CopyWork.grow {w0 w w2 w7 : World} {v : Value} {L : List (List Int)} {k g cap : Nat} {a : Option Addr} {c : Nat} {rv : Value} {R : Nat → Value} (h : CopyWork w0 v L k w) (hk : k < L.length) (hl : L.length ≤ 1048576) (hb : Below w.heap.size w w2) (hr : OwnRow 2 w2 w.heap.size rv (nthR L k))
    (hbx : BoxAt w (w0.heap.size + 1 + 1) (.slice a k c)) (hR : w.ownsRow (w0.heap.size + 1 + 1 + 1) 34 1 (.slice a k c) k ((List.range k).map R)) (hRr : ∀ i, i < k → OwnRow 2 w (w0.heap.size + 1 + 1 + 1) (R i) (nthR (L.take k) i)) (hRd : ∀ i j q, i < j → j < k → (R i).ownBlock = some q → (R j).ownBlock ≠ some q)
    (hown : w7.ownsRow (w0.heap.size + 1 + 1 + 1) 34 1 (.slice (some ⟨g, 0, none⟩) (k + 1) cap) (k + 1) ((List.range k).map R ++ [rv])) (hgrow : (w2.alloc (.cells #[rv] 34)).grownBy w7 (Value.slice a k c).ownBlock) :
    BoxAt w7 (w0.heap.size + 1 + 1) (.slice a k c) ∧ CopyWork w0 v L (k + 1) (w7.setCell ⟨w0.heap.size + 1 + 1, 0, none⟩ (.slice (some ⟨g, 0, none⟩) (k + 1) cap)) := by
  have hsz := h.size
  have htl : (L.take k).length = k := by rw [List.length_take]; omega
  have hW : Below w.heap.size w (w2.alloc (.cells #[rv] 34)) := hb.alloc hb.size _
  have hbw : Below (w0.heap.size + 1 + 1 + 1) w w7 := (hW.mono hsz).grown hgrow (by rw [size_alloc1]; have := hb.size; omega) (fun j hj => (hR.lt j hj).1)
  have hog : OwnGrid 2 34 w7 (w0.heap.size + 1 + 1 + 1) (.slice (some ⟨g, 0, none⟩) (k + 1) cap) (L.take k ++ [nthR L k]) := by
    refine OwnGrid.snoc (w0 := w) (w := w2.alloc (.cells #[rv] 34)) (rv := rv) (n := k) (v := .slice a k c) (by decide) hW hsz ?_ htl.symm (by rw [htl]; unfold maxLen; omega) R (by rw [htl]; exact hR) (by rw [htl]; exact hRr) (by rw [htl]; exact hRd) (by rw [htl]; exact hown) hgrow
    exact hr.keep ((Below.refl _ _).alloc (Nat.le_refl _) _)
  rw [← take_snocR hk] at hog
  have hbx7 := hbx.keepB hbw (by omega)
  exact ⟨hbx7, (h.arg.keepB hbw (by omega)).setOther (by simp; omega) _, (h.res.keepB hbw (by omega)).setOther (by simp) _, ⟨_, cap, hbx7.set _, hog.setBelow (by simp) _⟩, (h.bel.trans (hbw.mono (by omega))).setCell (by simp; omega) _, by rw [size_setCell1]; exact Nat.le_trans hsz hbw.size⟩

set_option maxHeartbeats 3200000 in
set_option maxRecDepth 100000 in
theorem l1CopyGraph_any (v : Value) (L : List (List Int)) (w : World) (h : GridAt w v L) (hs : Small L) : Calls Try.prog 104 #[.agg #[v]] w (GaveGraph w L) := by
  obtain ⟨i0, hi, hz0, hz1, hz2⟩ := info_parts Try.infoR
  obtain ⟨a0, c0, rfl⟩ := h.slice
  have hl := hs.1
  have HS := Lib.hid hs.2
  have HG := Lib.hid h
  have T0 : Hid (CopyWork w (.slice a0 L.length c0) L 0 (((w.alloc (.cells #[.slice a0 L.length c0] 26)).alloc (.cells #[.slice none 0 0] 26)).alloc (.cells #[.slice none 0 0] 26))) := by
    refine ⟨⟨by go_simp, by go_simp⟩, ⟨by go_simp, by go_simp⟩, ⟨none, 0, ⟨by go_simp, by go_simp⟩, own_nil _ _⟩, (((Below.refl _ _).alloc (Nat.le_refl _) _).alloc (by simp) _).alloc (by simp; omega) _, by simp⟩
  clear h hs
  go_enter Try.func104, Try.ntmps104
  go_wp2_with fail
  go_loopw [4] (fun i wr => ∃ k : Nat, k ≤ L.length ∧ i = .int .i64 k ∧ CopyWork w (.slice a0 L.length c0) L k wr) (fun i _ => L.length - (intOf i).toNat)
  case atStart => exact ⟨0, Nat.zero_le _, rfl, T0.out⟩
  case round =>
    obtain ⟨k, hk, rfl, hw⟩ := hrel
    have HW := Lib.hid hw
    have kb := hw.arg.1
    by_cases hlt : k < L.length
    · obtain ⟨b, o, c', A, C, e2, l1, l2, hc⟩ := HG.out.pos (by omega)
      simp only [Value.slice.injEq, true_and] at e2
      obtain ⟨rfl, rfl⟩ := e2
      have hck := cell_keep hw.bel (hc k hlt).1
      have HRK := Lib.hid ((hc k hlt).2.keep hw.bel)
      obtain ⟨ag, cg, hbx, hog⟩ := hw.out
      obtain ⟨R, hR, hRr, hRd⟩ := hog.owns
      have htl : (L.take k).length = k := by rw [List.length_take]; omega
      rw [htl] at hR hRr hRd
      have kt := hbx.1
      have ft := hbx.2
      have HBX := Lib.hid hbx
      have HR := Lib.hid hR
      have HRr := Lib.hid hRr
      have HRd := Lib.hid hRd
      have hzr := hw.size
      have hrl := HS.out k hlt
      have HC3 : Hid (k + 1 ≤ maxLen) := by show _ ≤ _; unfold maxLen; omega
      have HC4 : Hid ((k + 1) * 24 ≤ 140737488355328) := by show _ ≤ _; omega
      clear hc hw hbx hog hR hRr hRd htl
      go_wp2_with fail
      go_region_law (first
        | (go_simp; go_at_call 127; refine (l1Copy_any _ (nthR L k) _ (HRK.out.keep (Below.refl _ _).drew) hrl).mono ?_; rintro e w2 ⟨n2, a2, c2, rfl, ho2, hb2⟩; have HB2 : Hid (Below wr.heap.size wr w2) := (Below.refl _ _).drew.trans hb2; have HO2 : Hid (OwnRow 2 w2 wr.heap.size (.slice a2 n2 c2) (nthR L k)) := ho2; have kt2 := cell_keep HB2.out kt; have kt2a : (w2.alloc (.cells #[.slice a2 n2 c2] 34)).cell? ⟨w.heap.size + 1 + 1, 0, none⟩ = some (.slice ag k cg) := cell_keep ((Below.refl _ _).alloc (Nat.le_refl _) _) kt2; have HOR2 : Hid (w2.ownsRow (w.heap.size + 1 + 1 + 1) 34 1 (.slice ag k cg) k ((List.range k).map R)) := (⟨HR.out.1, HR.out.2.imp (fun h => h) (fun ⟨g, cap, cur, e, hgB, hh, r⟩ => ⟨g, cap, cur, e, hgB, by rw [HB2.out.block g (Array.getElem?_eq_some_iff.1 hh).1]; exact hh, r⟩)⟩); have HZ2 : Hid (w.heap.size + 1 + 1 + 1 ≤ (w2.alloc (.cells #[.slice a2 n2 c2] 34)).heap.size) := (by show _ ≤ _; rw [size_alloc1]; have := HB2.out.size; omega); clear ho2 hb2)
        | (refine step_append_lies _ (by rfl) (.tmp 14) (.tmp 21) 24 (by rfl) (w.heap.size + 1 + 1 + 1) 34 i0 (.slice none 0 0) 1 24 Try.underlying24 hi hz0 hz1 hz2 rfl (by omega) (.slice ag k cg) k ((List.range k).map R) (by rfl) (HOR2.out.alloc _) ⟨w2.heap.size, 0, none⟩ 1 1 [.slice a2 n2 c2] (by rfl) rfl (World.news_of_block (heap_alloc_new _ _)) (fun u hu => by simp at hu; subst hu; rfl) Nat.one_pos HC3.out HC4.out HZ2.out (w2.heap.size + 1) (size_alloc1 _ _) ?_; intro g7 cap7 w7 hown7 hgrow7 hat7 hlt7; obtain ⟨hbx7, hw7⟩ := HW.out.grow hlt hl HB2.out HO2.out HBX.out HR.out HRr.out HRd.out hown7 hgrow7; have kt7 := hbx7.1; have ft7 := hbx7.2; have HW7 := Lib.hid hw7; clear hown7 hgrow7 hat7 hlt7 hbx7 hw7))
      all_goals (
        clear kt7 ft7 kt2 kt2a kt ft kb hck
        go_wp2
        go_roundw
        case rel => exact ⟨k + 1, by omega, by go_num, HW7.out⟩
        case measure => simp [intOf]; omega)
    · obtain rfl : k = L.length := by omega
      obtain ⟨ag, cg, hbx, hog⟩ := hw.out
      have kt := hbx.1
      have kr := hw.res.1
      have kf := hw.res.2
      rw [List.take_length] at hog
      have HOG := Lib.hid hog
      have HRS := Lib.hid hw.res
      clear hbx hog hw
      go_wp2
      have q0 : (wr.setCell ⟨w.heap.size + 1, 0, none⟩ (.slice ag L.length cg)).cell? ⟨w.heap.size + 1, 0, none⟩ = some (.slice ag L.length cg) := cell_set_same _ HRS.out.1
      refine bodyPost_ret (v := .agg #[.slice ag L.length cg]) (by simp [results, Try.results104, go_sem, q0]) rfl ⟨L.length, ag, cg, rfl, ?_, ?_⟩
      · exact (HOG.out.setBelow (by simp) _).mono (by omega)
      · exact HW.out.bel.setCell (by simp) _

end Go.Proofs.Ytikfbfclbmlopaa

/- Walks: an edge contracted. -/
namespace Go.Proofs.Ytikfbfclbmlopaa
open Go.RowKit

theorem minA_any (x y : Int) (w : World) : Calls Try.prog 115 #[.int .i64 x, .int .i64 y] w fun e w' => e = .returned (.int .i64 (min x y)) ∧ w = w' := by
  by_cases h : x < y
  · have e : min x y = x := by omega
    have d : decide (x < y) = true := by simpa using h
    rw [e]
    clear e h
    go_enter Try.func115, Try.ntmps115
    go_wp2
    go_ret
    exact ⟨rfl, rfl⟩
  · have e : min x y = y := by omega
    have d : decide (x < y) = false := by simpa using h
    rw [e]
    clear e h
    go_enter Try.func115, Try.ntmps115
    go_wp2
    go_ret
    exact ⟨rfl, rfl⟩
theorem maxA_any (x y : Int) (w : World) : Calls Try.prog 116 #[.int .i64 x, .int .i64 y] w fun e w' => e = .returned (.int .i64 (max x y)) ∧ w = w' := by
  by_cases h : y < x
  · have e : max x y = x := by omega
    have d : decide (y < x) = true := by simpa using h
    rw [e]
    clear e h
    go_enter Try.func116, Try.ntmps116
    go_wp2
    go_ret
    exact ⟨rfl, rfl⟩
  · have e : max x y = y := by omega
    have d : decide (y < x) = false := by simpa using h
    rw [e]
    clear e h
    go_enter Try.func116, Try.ntmps116
    go_wp2
    go_ret
    exact ⟨rfl, rfl⟩

/-- Who is near whom when a has been joined to the vertices of ys but itself. -/
def conA (L : List (List Int)) (a : Nat) (ys : List Int) (i j : Nat) : Bool := adjB L i j || (i == a && j != a && hasB ys (j : Int)) || (j == a && i != a && hasB ys (i : Int))
theorem conA_nil (L : List (List Int)) (a i j : Nat) : conA L a [] i j = adjB L i j := by
  unfold conA
  have : ∀ z : Int, hasB [] z = false := fun z => by cases h : hasB [] z with | false => rfl | true => (rw [hasB_iff] at h; obtain ⟨q, hq, _⟩ := h; simp at hq)
  rw [this, this]; simp
theorem hasB_snoc (xs : List Int) (y z : Int) : hasB (xs ++ [y]) z = (hasB xs z || z == y) := by
  rw [Bool.eq_iff_iff, hasB_mem, Bool.or_eq_true, hasB_mem, beq_iff_eq]
  simp
theorem conA_same (L : List (List Int)) (a : Nat) (ys : List Int) (i j : Nat) : conA L a (ys ++ [(a : Int)]) i j = conA L a ys i j := by
  unfold conA
  rw [hasB_snoc, hasB_snoc]
  by_cases h1 : j = a
  · subst h1
    by_cases h2 : i = j
    · subst h2; simp
    · have e : ((i : Int) == (j : Int)) = false := by rw [beq_eq_false_iff_ne]; omega
      rw [e]; simp
  · have e : ((j : Int) == (a : Int)) = false := by rw [beq_eq_false_iff_ne]; omega
    have e1 : (j == a) = false := by rw [beq_eq_false_iff_ne]; exact h1
    rw [e, e1]; simp
theorem conA_link (L : List (List Int)) {a y : Nat} (ys : List Int) (hy : y ≠ a) (i j : Nat) : conA L a (ys ++ [(y : Int)]) i j = linkA (conA L a ys) a y i j := by
  unfold linkA conA
  rw [hasB_snoc, hasB_snoc]
  have c1 : ((j : Int) == (y : Int)) = (j == y) := by rw [Bool.eq_iff_iff, beq_iff_eq, beq_iff_eq]; omega
  have c2 : ((i : Int) == (y : Int)) = (i == y) := by rw [Bool.eq_iff_iff, beq_iff_eq, beq_iff_eq]; omega
  rw [c1, c2]
  have d1 : j = y → (j != a) = true := fun h => by rw [bne_iff_ne]; omega
  have d2 : i = y → (i != a) = true := fun h => by rw [bne_iff_ne]; omega
  by_cases h1 : j = y
  · have e := d1 h1
    have f : (j == a) = false := by rw [beq_eq_false_iff_ne]; omega
    have g : (j == y) = true := by rw [beq_iff_eq]; exact h1
    rw [e, f, g]
    cases adjB L i j <;> cases (i == a) <;> cases hasB ys (j : Int) <;> simp
  · have g : (j == y) = false := by rw [beq_eq_false_iff_ne]; exact h1
    rw [g]
    by_cases h2 : i = y
    · have e := d2 h2
      have f : (i == a) = false := by rw [beq_eq_false_iff_ne]; omega
      have g : (i == y) = true := by rw [beq_iff_eq]; exact h2
      rw [e, f, g]
      cases adjB L i j <;> cases (j == a) <;> cases hasB ys (i : Int) <;> simp
    · have g : (i == y) = false := by rw [beq_eq_false_iff_ne]; exact h2
      rw [g]; simp

/-- The graph in which the edge is contracted, but for the vertex that goes. -/
def conG (L : List (List Int)) (a b : Nat) : List (List Int) := adjL L.length (conA L a (nthR L b))
theorem conG_graph {L : List (List Int)} (hG : GraphP L) {a b : Nat} (ha : a < L.length) (hb : b < L.length) : GraphP (conG L a b) := by
  have hr : ∀ z : Nat, hasB (nthR L b) (z : Int) = true → z < L.length := by
    intro z hz
    obtain ⟨q, hq, e⟩ := (hasB_iff _ _).1 hz
    have := ((hG.2.1 b hb).1 q hq).2.1
    rw [e] at this
    omega
  refine adjL_graph hG.1 ?_ ?_ ?_
  · intro i j h
    unfold conA at h
    simp only [Bool.or_eq_true, Bool.and_eq_true, beq_iff_eq] at h
    rcases h with (h | h) | h
    · exact (adjB_range hG h).2
    · exact hr j h.2
    · omega
  · intro i j
    unfold conA
    rw [adjB_sym hG i j]
    cases adjB L j i <;> cases (i == a && j != a && hasB (nthR L b) (j : Int)) <;> cases (j == a && i != a && hasB (nthR L b) (i : Int)) <;> rfl
  · intro i
    unfold conA
    rw [adjB_self hG]
    by_cases h : i = a
    · subst h; simp
    · have : (i == a) = false := by rw [beq_eq_false_iff_ne]; exact h
      rw [this]; simp
theorem conG_len (L : List (List Int)) (a b : Nat) : (conG L a b).length = L.length := adjL_len _ _
theorem adjB_adjL {n : Nat} {A : Nat → Nat → Bool} (hG : GraphP (adjL n A)) {i j : Nat} (hi : i < n) (hj : j < 16) : adjB (adjL n A) i j = A i j := by
  rw [← adjB_has hG (by rw [adjL_len]; exact hi) hj, adjL_nth _ hi, Bool.eq_iff_iff, hasB_mem, listM_mem]
  constructor
  · rintro ⟨q, h1, h2, h3⟩
    have : q = j := by omega
    subst this
    rw [pm_bit, Bool.and_eq_true] at h2
    exact h2.2
  · intro h
    exact ⟨j, hj, by rw [pm_bit, h]; simp [hj], rfl⟩
theorem rowM_adjL {n : Nat} {A : Nat → Nat → Bool} (hG : GraphP (adjL n A)) {i : Nat} (hi : i < n) : rowM (adjL n A) i = pm (A i) := by
  rw [rowM_pm hG]
  exact pm_congr (fun j hj => adjB_adjL hG hi hj)
theorem row_list {L : List (List Int)} (hG : GraphP L) {b : Nat} (hb : b < L.length) : listM (rowM L b) = nthR L b := by
  have h : nthR (adjL L.length (adjB L)) b = nthR L b := by rw [graph_adjL hG]
  rw [adjL_nth _ hb] at h
  rw [rowM_pm hG]
  exact h

/-- The answer. -/
def conL (L : List (List Int)) (u x : Int) : List (List Int) := pickL (conG L (min u x).toNat (max u x).toNat) (restL L.length (max u x).toNat) (edgeB L u x)
theorem conL_small (L : List (List Int)) (u x : Int) : Small (conL L u x) := pickL_small (fun _ => restL_len _ _)
theorem conL_no {L : List (List Int)} {u x : Int} (h : edgeB L u x = false) : conL L u x = [] := by rw [conL, h]; rfl
/-- The two ends of an edge, the lesser first. -/
theorem edgeB_ends {L : List (List Int)} {u x : Int} (h : edgeB L u x = true) : GraphP L ∧ ∃ a b : Nat, ((u = (a : Int) ∧ x = (b : Int)) ∨ (u = (b : Int) ∧ x = (a : Int))) ∧ a < b ∧ b < L.length := by
  unfold edgeB inB at h
  simp at h
  obtain ⟨⟨⟨hG, hu⟩, hx⟩, hh⟩ := h
  have hne : u ≠ x := by
    intro e
    subst e
    have := (hG.2.1 u.toNat (by omega)).2
    rw [Int.toNat_of_nonneg hu.1, hh] at this
    cases this
  exact ⟨hG, (min u x).toNat, (max u x).toNat, by omega, by omega, by omega⟩

theorem OwnRow.put {T T2 : TypeId} {w w' : World} {B g n : Nat} {M : Nat → Nat} {v : Value} {xs : List Int} (h : OwnRow T w B v xs) (hp : NetPut T2 w w' g n M) (hg : g < B) : OwnRow T w' B v xs := by
  obtain ⟨h1, h2, h3⟩ := h
  refine ⟨h1, h2, ?_⟩
  rcases h3 with h3 | ⟨g', cap, cur, e, hg', hh, r⟩
  · exact Or.inl h3
  · exact Or.inr ⟨g', cap, cur, e, hg', by rw [hp.other g' (by omega)]; exact hh, r⟩
theorem Two.putG {T : TypeId} {w0 : World} {v : Value} {w w' : World} {g n : Nat} {M : Nat → Nat} (h : Two w0 v w) (hp : NetPut T w w' g n M) (hg : w0.heap.size + 1 < g) : Two w0 v w' :=
  ⟨h.arg.keepB hp.below (by omega), h.res.keepB hp.below hg, h.bel.trans (hp.below.mono (by omega))⟩
theorem conG_pick {L : List (List Int)} (hG : GraphP L) {a b : Nat} (ha : a < L.length) (hb : b < L.length) : ∀ i j, i < (restL L.length b).length → j < (restL L.length b).length → pickA (conG L a b) (restL L.length b) i j = hasM (pm (conA L a (nthR L b) (nth (restL L.length b) i).toNat)) (nth (restL L.length b) j) := by
  intro i j hi hj
  have hz := hG.1
  have hGc := conG_graph hG ha hb
  have hin := restL_in hz.2 hb
  rw [pickA_impl hGc (fun i hi => by rw [conG_len]; exact hin i hi) i j hi hj]
  have := hin i hi
  unfold conG at hGc ⊢
  rw [rowM_adjL hGc (by omega)]

set_option maxHeartbeats 1600000 in
theorem implContracted_any (v : Value) (L : List (List Int)) (u x : Int) (w : World) (h : GridAt w v L) (hu : I64 u) (hx : I64 x) : Calls Try.prog 67 #[.agg #[v], .int .i64 u, .int .i64 x] w (GaveGB w (conL L u x) (edgeB L u x)) := by
  obtain ⟨a0, c0, rfl⟩ := h.slice
  have T0 := Lib.hid (Two.start w (.slice a0 L.length c0))
  have HGK : Hid (∀ w', Below w.heap.size w w' → GridAt w' (.slice a0 L.length c0) L) := fun w' hb => h.keep hb
  clear h
  go_enter Try.func67, Try.ntmps67
  go_wp2_with fail
  refine (implEdgeIn_any _ L u x _ (HGK.out _ T0.out.bel) hu hx).mono ?_
  rintro e w1 ⟨rfl, hb1⟩
  have T1 := Lib.hid (T0.out.keep hb1)
  clear hb1 T0
  by_cases hE : edgeB L u x = true
  · have HI := Lib.hid hE
    obtain ⟨hG, a, b, hux, hab, hbL⟩ := edgeB_ends hE
    have hz := hG.1
    have HG := Lib.hid hG
    have HEA : Hid ((min u x).toNat = a ∧ (max u x).toNat = b) := by show _ ∧ _; omega
    have kb1 := T1.out.arg.1
    rw [hE]
    clear hE hG
    go_wp2_with fail
    refine (netOf_any _ _ _ (HGK.out _ T1.out.bel)).mono ?_
    rintro e w2 ⟨rfl, hb2⟩
    have T2 := Lib.hid (T1.out.keep hb2)
    have hnb := netBlk_new w2 0 (fun _ => 0)
    rw [decide_eq_true HG.out, netArr_yes HG.out]
    have hb16 : b < 16 := by omega
    have hb16' : (b : Int) < 16 := by omega
    have hml : ∀ i, rowM L i < 65536 := fun i => rowM_lt (by omega) (fun v hv => (HG.out.2.1 v hv).1) i
    have HML := Lib.hid hml
    have HRL := Lib.hid (row_list HG.out hbL)
    clear hb2 kb1 T1 hml
    rcases hux with ⟨rfl, rfl⟩ | ⟨rfl, rfl⟩
    all_goals (
      go_wp2_with (first | (refine wpList_store_net rfl 71 (.tmp 8) (.tmp 23) rfl w2.heap.size L.length (rowM L) rfl rfl Try.sizeNet 0 (fun _ => 0) hnb ?_; intro w3 hp; have kb3 := hp.net.at.2 b hb16; have HN3 := Lib.hid hp.net; have T3 := Lib.hid (T2.out.put hp); clear hp))
      refine (list_any _ _ (HML.out b)).mono ?_
      rintro e w4 ⟨n4, a4, c4, rfl, ho4, hb4⟩
      rw [HRL.out] at ho4
      obtain rfl : n4 = (nthR L b).length := by
        obtain ⟨a5, c5, e5⟩ := ho4.row.slice
        simp only [Value.slice.injEq] at e5
        exact e5.2.1
      have hly : (nthR L b).length ≤ 16 := by rw [← HRL.out]; exact listM_len _
      have HO4 := Lib.hid ho4
      have HN4 := Lib.hid (HN3.out.keep hb4)
      have T4 := Lib.hid (T3.out.keep hb4)
      have hz4 : w3.heap.size ≤ w4.heap.size := hb4.size
      have hz3 : w2.heap.size < w3.heap.size := HN3.out.lt
      clear ho4 hb4 kb3
      go_wp2_with fail
      go_loopw [37] (fun i wr => ∃ k : Nat, k ≤ (nthR L b).length ∧ i = .int .i64 k ∧ NetBlk 71 wr w2.heap.size L.length (fun i => pm (conA L a ((nthR L b).take k) i)) ∧ Two w (.slice a0 L.length c0) wr ∧ OwnRow 2 wr w3.heap.size (.slice a4 (nthR L b).length c4) (nthR L b)) (fun i _ => (nthR L b).length - (intOf i).toNat)
      case atStart => exact ⟨0, Nat.zero_le _, rfl, HN4.out.congr rfl (fun i _ => by rw [rowM_pm HG.out]; exact pm_congr (fun j _ => (conA_nil L a i j).symm)), T4.out, HO4.out⟩
      case round =>
        obtain ⟨k, hk, rfl, hn, ht, ho⟩ := hrel
        have HN := Lib.hid hn
        have HT := Lib.hid ht
        have HO := Lib.hid ho
        clear hn ht
        by_cases hlt : k < (nthR L b).length
        · obtain ⟨b7, o7, c7, e7, l71, l72, hc7⟩ := ho.row.pos (by omega)
          simp only [Value.slice.injEq, true_and] at e7
          obtain ⟨rfl, rfl⟩ := e7
          have hck := hc7 k hlt
          have hyr := ((HG.out.2.1 b hbL).1 k hlt)
          obtain ⟨y, hy⟩ : ∃ y : Nat, nth (nthR L b) k = (y : Int) := ⟨(nth (nthR L b) k).toNat, by have := hyr.1; omega⟩
          have hyn : y < L.length := by have := hyr.2.1; omega
          rw [hy] at hck
          have HTK : Hid ((nthR L b).take (k + 1) = (nthR L b).take k ++ [(y : Int)]) := by show _ = _; rw [take_snoc hlt, hy]
          clear ho hc7 hyr hy
          by_cases hya : y = a
          · have hne : ((y : Int) != (a : Int)) = false := by rw [hya]; simp
            have HYA := Lib.hid hya
            clear hya
            go_wp2
            go_roundw
            case rel => exact ⟨k + 1, by omega, by go_num, HN.out.congr rfl (fun i _ => by rw [HTK.out, HYA.out]; exact pm_congr (fun j _ => (conA_same L a _ i j).symm)), HT.out, HO.out⟩
            case measure => simp [intOf]; omega
          · have hne : ((y : Int) != (a : Int)) = true := by rw [bne_iff_ne]; omega
            have hay : a ≠ y := fun e => hya e.symm
            clear hya
            go_wp2_with fail
            refine (link_any w2.heap.size L.length a y _ _ HN.out (fun i => pm_lt _) (by omega) (by omega) hay).mono ?_
            rintro e w6 ⟨rfl, hp6⟩
            have HN6 : Hid (NetBlk 71 w6 w2.heap.size L.length (fun i => pm (conA L a ((nthR L b).take (k + 1)) i))) := hp6.net.congr rfl (fun i _ => by rw [linkM_pm _ (by omega) (by omega) hay, HTK.out]; exact pm_congr (fun j _ => (conA_link L _ (fun e => hay e.symm) i j).symm))
            have T6 := Lib.hid (HT.out.putG hp6 T2.out.lt)
            have HO6 := Lib.hid (HO.out.put hp6 hz3)
            clear hp6 hck
            go_wp2
            go_roundw
            case rel => exact ⟨k + 1, by omega, by go_num, HN6.out, T6.out, HO6.out⟩
            case measure => simp [intOf]; omega
        · obtain rfl : k = (nthR L b).length := by omega
          clear ho
          have HN8 : Hid (NetBlk 71 wr w2.heap.size L.length (fun i => pm (conA L a (nthR L b) i))) := HN.out.congr rfl (fun i _ => by rw [List.take_length])
          have hGc := conG_graph HG.out (show a < L.length by omega) hbL
          have HGC := Lib.hid hGc
          clear hGc
          go_wp2_with fail
          refine (without_any w2.heap.size L.length b _ (pickA (conG L a b) (restL L.length b)) _ HN8.out (fun i => pm_lt _) hz.2 hbL (by omega) (conG_pick HG.out (by omega) hbL) (pickA_sym HGC.out _) (pickA_self HGC.out _) (fun i j => pickA_range)).mono ?_
          rintro e w9 ⟨n9, a9, c9, rfl, ho9, hb9⟩
          have T9 := Lib.hid (HT.out.keep hb9)
          have kr := T9.out.res.1
          have kf := T9.out.res.2
          have HO9 := Lib.hid ho9
          clear ho9 hb9
          go_wp2
          refine bodyPost_ret (v := .tuple #[.agg #[.slice a9 n9 c9], .bool true]) (by simp [results, Try.results67, go_sem, T9.out.q0]) rfl (T9.out.yes (B := wr.heap.size) ?_ HT.out.lt HI.out)
          rw [conL, pickL, if_pos HI.out, HEA.out.1, HEA.out.2]
          exact HO9.out)
  · have hE' : edgeB L u x = false := by simpa using hE
    have HI := Lib.hid hE'
    have kr := T1.out.res.1
    have kf := T1.out.res.2
    rw [hE']
    clear hE hE'
    go_wp2
    exact bodyPost_ret (v := .tuple #[.agg #[.slice none 0 0], .bool false]) (by simp [results, Try.results67, go_sem, T1.out.q0]) rfl (T1.out.no (conL_no HI.out) HI.out)

end Go.Proofs.Ytikfbfclbmlopaa
