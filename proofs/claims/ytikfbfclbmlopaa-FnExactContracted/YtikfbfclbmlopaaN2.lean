/- Walks: the model's contraction. -/
import Derived.Test.YtikfbfclbmlopaaN1
import Derived.StillTailTactics
namespace Go.Proofs.Ytikfbfclbmlopaa
open Go.RowKit

theorem graph_small {L : List (List Int)} (hG : GraphP L) : Small L := by
  rw [← graph_adjL hG]
  exact adjL_small _ _ hG.1.2

set_option maxHeartbeats 3200000 in
set_option maxRecDepth 100000 in
theorem specContracted_any (v : Value) (L : List (List Int)) (u x : Int) (w : World) (h : GridAt w v L) (hu : I64 u) (hx : I64 x) : Calls Try.prog 66 #[.agg #[v], .int .i64 u, .int .i64 x] w (GaveGB w (conL L u x) (edgeB L u x)) := by
  obtain ⟨a0, c0, rfl⟩ := h.slice
  have T0 := Lib.hid (Two.start w (.slice a0 L.length c0))
  have HGK : Hid (∀ w', Below w.heap.size w w' → GridAt w' (.slice a0 L.length c0) L) := fun w' hb => h.keep hb
  clear h
  go_enter Try.func66, Try.ntmps66
  go_wp2_with fail
  refine (specEdgeIn_any _ L u x _ (HGK.out _ T0.out.bel) hu hx).mono ?_
  rintro e w1 ⟨rfl, hb1⟩
  have T1 := Lib.hid (T0.out.keep hb1)
  clear hb1 T0
  by_cases hE : edgeB L u x = true
  · have HI := Lib.hid hE
    obtain ⟨hG, a, b, hux, hab, hbL⟩ := edgeB_ends hE
    have hz := hG.1
    have HG := Lib.hid hG
    have HEA : Hid ((min u x).toNat = a ∧ (max u x).toNat = b) := by show _ ∧ _; omega
    have HMN : Hid (min u x = (a : Int)) := by show _ = _; omega
    have HMX : Hid (max u x = (b : Int)) := by show _ = _; omega
    have kb1 := T1.out.arg.1
    rw [hE]
    clear hE hG hux
    go_wp2_with fail
    refine (minA_any _ _ _).mono ?_
    rintro e w' ⟨rfl, rfl⟩
    rw [HMN.out]
    go_wp2_with fail
    refine (maxA_any _ _ _).mono ?_
    rintro e w' ⟨rfl, rfl⟩
    rw [HMX.out]
    go_wp2_with fail
    refine (l1CopyGraph_any _ L _ (HGK.out _ T1.out.bel) (graph_small HG.out)).mono ?_
    rintro e w2 ⟨n2, a2, c2, rfl, ho2, hb2⟩
    obtain rfl : n2 = L.length := by
      obtain ⟨a3, c3, e3⟩ := ho2.grid.slice
      simp only [Value.slice.injEq] at e3
      exact e3.2.1
    have T2 := Lib.hid (T1.out.keep hb2)
    have hz1 : w.heap.size + 1 + 1 ≤ w1.heap.size := T1.out.lt
    have hz2 : w1.heap.size ≤ w2.heap.size := hb2.size
    have hbw : Below w2.heap.size w2 (w2.alloc (.cells #[.slice a2 L.length c2] 26)) := (Below.refl _ _).alloc (Nat.le_refl _) _
    have HW0 : Hid (Work w w.heap.size (.slice a0 L.length c0) w2.heap.size L.length (w.heap.size + 1 + 1) (conA L a []) (w2.alloc (.cells #[.slice a2 L.length c2] 26))) := by
      refine ⟨T2.out.arg.keep hbw, T2.out.res.keep hbw, ⟨a2, c2, BoxT.new _ _ _, ?_⟩, (T2.out.keep hbw).bel⟩
      rw [adjL_congr (fun i _ j _ => conA_nil L a i j), graph_adjL HG.out]
      exact (ho2.mono hz1).keep hbw
    obtain ⟨bg, og, cg, A, C, eg, lg1, lg2, hcg⟩ := (HGK.out _ (Below.refl _ _)).pos (by omega)
    simp only [Value.slice.injEq, true_and] at eg
    obtain ⟨rfl, rfl⟩ := eg
    have HKB : Hid (∀ w', Below w.heap.size w w' → w'.cell? ⟨bg, og + b, none⟩ = some (.slice (A b) (nthR L b).length (C b))) := fun w' hb => cell_keep hb (hcg b hbL).1
    have HRB : Hid (∀ w', Below w.heap.size w w' → RowAt w' (.slice (A b) (nthR L b).length (C b)) (nthR L b)) := fun w' hb => (hcg b hbL).2.keep hb
    have hly : (nthR L b).length ≤ 16 := by rw [← row_list HG.out hbL]; exact listM_len _
    have hbI : (b : Int) < (L.length : Int) := by omega
    clear ho2 hb2 hbw kb1 hcg
    go_wp2_with fail
    go_loopw [11] (fun i wr => ∃ k : Nat, k ≤ (nthR L b).length ∧ i = .int .i64 k ∧ Work w w.heap.size (.slice (some ⟨bg, og, none⟩) L.length c0) w2.heap.size L.length (w.heap.size + 1 + 1) (conA L a ((nthR L b).take k)) wr) (fun i _ => (nthR L b).length - (intOf i).toNat)
    case atStart => exact ⟨0, Nat.zero_le _, rfl, HW0.out⟩
    case round =>
      obtain ⟨k, hk, rfl, hw⟩ := hrel
      have HW := Lib.hid hw
      have kb := hw.arg.1
      have kr := HKB.out _ hw.bel
      by_cases hlt : k < (nthR L b).length
      · obtain ⟨b7, o7, c7, e7, l71, l72, hc7⟩ := (HRB.out _ hw.bel).pos (by omega)
        simp only [Value.slice.injEq, true_and] at e7
        obtain ⟨hAb, rfl⟩ := e7
        have hck := hc7 k hlt
        have hyr := ((HG.out.2.1 b hbL).1 k hlt)
        obtain ⟨y, hy⟩ : ∃ y : Nat, nth (nthR L b) k = (y : Int) := ⟨(nth (nthR L b) k).toNat, by have := hyr.1; omega⟩
        have hyn : y < L.length := by have := hyr.2.1; omega
        rw [hy] at hck
        rw [hAb] at kr
        have HTK : Hid ((nthR L b).take (k + 1) = (nthR L b).take k ++ [(y : Int)]) := by show _ = _; rw [take_snoc hlt, hy]
        clear hw hc7 hyr hy hAb
        by_cases hya : y = a
        · have hne : ((y : Int) != (a : Int)) = false := by rw [hya]; simp
          have HYA := Lib.hid hya
          clear hya
          go_wp2
          go_roundw
          case rel => exact ⟨k + 1, by omega, by go_num, HW.out.congr (fun i j => by rw [HTK.out, HYA.out]; exact (conA_same L a _ i j).symm)⟩
          case measure => simp [intOf]; omega
        · have hne : ((y : Int) != (a : Int)) = true := by rw [bne_iff_ne]; omega
          have hay : a ≠ y := fun e => hya e.symm
          obtain ⟨ag, cg, hbt, hog⟩ := HW.out.out
          obtain ⟨g, cap, eg, hBg, hgs, _⟩ := hog.place (by rw [adjL_len]; omega)
          simp only [adjL_len, Value.slice.injEq, true_and] at eg
          obtain ⟨rfl, rfl⟩ := eg
          have hgne : w2.heap.size ≠ g := by
            obtain ⟨cur, hcur⟩ := hog.blkT
            intro e
            rw [← e] at hcur
            have hbb : wr.heap[w2.heap.size]? = _ := hbt
            rw [hcur] at hbb
            simp at hbb
          have kg := hbt.box.1
          have hw5 := HW.out.keep (Below.refl _ _).drew
          have hbt5 := hbt.keep (Below.refl _ _).drew
          have hog5 := hog.keep (Below.refl _ _).drew
          have HW5 := Lib.hid hw5
          have HBT := Lib.hid hbt5
          have HOG := Lib.hid hog5
          clear hya hbt hog hw5 hbt5 hog5
          go_wp2_with fail
          go_still_tail 10, (by kernel_rfl)
          change wpList _ _ _ _ _ wr.drew
          clear kg kb kr hck
          generalize wr.drew = w5 at HW5 HBT HOG ⊢
          go_wp2_with fail
          refine (l1Link_adj a y g cg (w.heap.size + 1 + 1) L.length _ _ HOG.out (by have := HBT.out.lt; omega) (by omega) hyn hz.2 hay).mono ?_
          rintro e w6 ⟨rfl, ho6, hb6, ht6⟩
          have bt6 : BoxT 26 w6 w2.heap.size (.slice (some ⟨g, 0, none⟩) L.length cg) := by
            unfold BoxT
            rw [ht6 _ HBT.out.lt hgne]
            exact HBT.out
          have kb6 := bt6.box.1
          have kf6 := bt6.box.2
          have HW6 : Hid (Work w w.heap.size (.slice (some ⟨bg, og, none⟩) L.length c0) w2.heap.size L.length (w.heap.size + 1 + 1) (conA L a ((nthR L b).take (k + 1))) (w6.setCell ⟨w2.heap.size, 0, none⟩ (.slice (some ⟨g, 0, none⟩) L.length cg))) := by
            refine ⟨(HW5.out.arg.keepB hb6 (by omega)).setOther (by simp; omega) _, (HW5.out.res.keepB hb6 (by omega)).setOther (by simp; omega) _, ⟨_, cg, bt6.set _, ?_⟩, (HW5.out.bel.trans (hb6.mono (by omega))).setCell (by simp; omega) _⟩
            rw [HTK.out, adjL_congr (fun i _ j _ => conA_link L _ (fun e => hay e.symm) i j)]
            exact ho6.setType bt6 (by decide) (by decide) 0 _
          clear bt6 ho6 hb6 ht6
          go_wp2
          go_roundw
          case rel => exact ⟨k + 1, by omega, by go_num, HW6.out⟩
          case measure => simp [intOf]; omega
      · obtain rfl : k = (nthR L b).length := by omega
        obtain ⟨ag, cg, hbt, hog⟩ := hw.out
        rw [List.take_length] at hog
        have kg := hbt.box.1
        have HBT := Lib.hid hbt
        have HOG : Hid (∀ w', Below wr.heap.size wr w' → GridAt w' (.slice ag L.length cg) (conG L a b)) := fun w' hb => hog.grid.keep hb
        have T5 : Hid (Two w (.slice (some ⟨bg, og, none⟩) L.length c0) wr) := ⟨hw.arg, hw.res, hw.bel⟩
        have kb5 := hw.arg.1
        have HXI : Hid (InP (conG L a b) (restL L.length b)) := fun i hi => by rw [conG_len]; exact restL_in hz.2 hbL i hi
        have HWO := Lib.hid (wo_all hz.2 hbL)
        have HGC := Lib.hid (conG_graph HG.out (show a < L.length by omega) hbL)
        have h2 : 2 ≤ L.length := by omega
        have hltg : w2.heap.size < wr.heap.size := hbt.lt
        have HNE : Hid (w.heap.size + 1 ≠ w2.heap.size) := by show _ ≠ _; omega
        clear hw hbt hog
        go_wp2_with fail
        go_region_held3 (fun wx => wx.cell? ⟨w.heap.size, 0, none⟩ = some (.slice (some ⟨bg, og, none⟩) L.length c0) ∧ wx.cell? ⟨w2.heap.size, 0, none⟩ = some (.slice ag L.length cg)) (first | exact ⟨kb5, kg⟩ | exact ⟨kba, kga⟩ | exact ⟨kbb, kgb⟩ | exact ⟨kbc, kgc⟩ | exact ⟨kbd, kgd⟩ | exact ⟨(cell_set_other _ (fun e => by simp at e)).trans kbd, (cell_set_other _ (fun e => HNE.out (congrArg Addr.block e))).trans kgd⟩)
          (first
            | (go_at_call 72; refine (l1Size_any _ L _ (HGK.out _ T5.out.bel.drew)).mono ?_; rintro e wa ⟨rfl, hba⟩; have TA := Lib.hid ((T5.out.keep (Below.refl _ _).drew).keep hba); have kba := TA.out.arg.1; have HBA : Hid (Below wr.heap.size wr wa) := (Below.refl _ _).drew.trans hba; have kga := cell_keep HBA.out kg; clear hba)
            | (go_at_call 111; refine (l1All_any L.length _ hz.2).mono ?_; rintro e wb ⟨nb, ab, cb, rfl, hob, hbb⟩; have TB := Lib.hid (TA.out.keep hbb); have kbb := TB.out.arg.1; have HBB : Hid (Below wr.heap.size wr wb) := HBA.out.trans (hbb.mono HBA.out.size); have kgb := cell_keep HBB.out kg; have HOB := Lib.hid hob; clear hob hbb)
            | (go_at_call 109; refine (l2Without_any _ (allL L.length) (b : Int) _ HOB.out.row (by rw [allL_len]; omega)).mono ?_; rintro e wc ⟨nc, ac, cc, rfl, hoc, hbc⟩; have HOC : Hid (OwnRow 2 wc wb.heap.size (.slice ac nc cc) (restL L.length b)) := (by rw [HWO.out] at hoc; exact hoc); have TC := Lib.hid (TB.out.keep hbc); have kbc := TC.out.arg.1; have HBC : Hid (Below wr.heap.size wr wc) := HBB.out.trans (hbc.mono HBB.out.size); have kgc := cell_keep HBC.out kg; clear hoc hbc)
            | (go_at_call 110; refine (l2Of_any _ _ (conG L a b) (restL L.length b) (pickA (conG L a b) (restL L.length b)) _ (HOG.out _ HBC.out) HOC.out.row (restL_pos hz.2 hbL h2) (restL_len _ _) HXI.out (pickA_spec HGC.out HXI.out) (pickA_sym HGC.out _) (pickA_self HGC.out _) (fun i j => pickA_range)).mono ?_; rintro e wd ⟨nd, ad, cd, rfl, hod, hbd⟩; have TD := Lib.hid (TC.out.keep hbd); have kbd := TD.out.arg.1; have krd := TD.out.res.1; have kfd := TD.out.res.2; have kgd := cell_keep hbd kgc; have HOD := Lib.hid hod; clear hod hbd))
        go_wp2
        refine bodyPost_ret (v := .tuple #[.agg #[.slice ad nd cd], .bool true]) (by simp [results, Try.results66, go_sem, TD.out.q0]) rfl (TD.out.yes (B := wc.heap.size) ?_ TC.out.lt HI.out)
        rw [conL, pickL, if_pos HI.out, HEA.out.1, HEA.out.2]
        exact HOD.out
  · have hE' : edgeB L u x = false := by simpa using hE
    have HI := Lib.hid hE'
    have kr := T1.out.res.1
    have kf := T1.out.res.2
    rw [hE']
    clear hE hE'
    go_wp2
    exact bodyPost_ret (v := .tuple #[.agg #[.slice none 0 0], .bool false]) (by simp [results, Try.results66, go_sem, T1.out.q0]) rfl (T1.out.no (conL_no HI.out) HI.out)

end Go.Proofs.Ytikfbfclbmlopaa
