/- The walk of FnCanon. -/
import Derived.Test.YtgeifbgjfbfcfaaQDA1
import Derived.Test.YtgeifbgjfbfcfaaQRF1
import Derived.Test.YtgeifbgjfbfcfaaQCP1
import Derived.Test.YtgeifbgjfbfcfaaQEP1
import Derived.Test.YtgeifbgjfbfcfaaQC6
import Derived.Test.YtgeifbgjfbfcfaaQCO1
import Derived.Test.YtgeifbgjfbfcfaaQK2
import Derived.Test.YtgeifbgjfbfcfaaK4
import Derived.Deep.RegionHeld3
import Derived.Deep.DeepFit

namespace Go.Proofs.Ytgeifbgjfbfcfaa
open Go.RowKit

theorem like_same {v v' : Value} {xs : List Int} {w : World} (h : RowAt w v xs) (h' : RowAt w v' xs) : Calls Try.prog 12 #[v, v'] w fun e w' => e = .returned (.bool true) ∧ Drawn w w' :=
  (likeInts_any v v' xs xs w h h').mono fun e w' hh => ⟨by rw [hh.1, decide_eq_true rfl], hh.2⟩
theorem canG_len0 {L : List (List Int)} (h : ¬ SmallP L) : (canG L).length = 0 := by rw [canG_no h]; rfl
theorem alB_no {La Lb : List (List Int)} (h : ¬ (SmallP La ∧ SmallP Lb)) : alB La Lb = false := by
  unfold alB
  rw [decide_eq_false (fun h' => h ⟨h'.1, h'.2.1⟩)]
theorem canon_ren {L : List (List Int)} (h : SmallP L) : orderB L (canR L) = true ∧ pickL L (canR L) true = canG L := by
  refine ⟨ord_true h.1 (canR_perm h), ?_⟩
  unfold canG
  rw [decide_eq_true h]

set_option maxHeartbeats 8000000 in
set_option maxRecDepth 100000 in
theorem lawCanon (a0 : Option Addr) (n0 c0 : Nat) (w : World) (hb : n0 ≤ 4096 → BytesAt w w.heap.size (.slice a0 n0 c0) n0) :
    Calls Try.prog 3 #[.slice a0 n0 c0] w fun e w' => e = .returned (.bool true) ∧ Below w.heap.size w w' := by
  have HBY := Lib.hid hb
  clear hb
  go_enter Try.func3, Try.ntmps3
  go_wp2_with fail
  refine (big_any _ _ _ _).mono ?_
  rintro e w' ⟨rfl, rfl⟩
  by_cases hbig : (4096 : Int) < (n0 : Int)
  · rw [decide_eq_true hbig]
    go_wp2
    go_ret
    exact ⟨rfl, Below.refl _ _⟩
  rw [decide_eq_false hbig]
  go_wp2_with fail
  refine (drawAlikeIn_any n0 _ _ (HBY.out (by omega))).mono ?_
  rintro e w1 ⟨La, Lb, ap, np, cp, ag, ng, cg, rfl, g1, g2, rfl, rfl, hb1⟩
  have HT : Hid (TwoG w1 (.slice ap La.length cp) (.slice ag Lb.length cg) La Lb ((w1.alloc (.cells #[.slice ap La.length cp] 26)).alloc (.cells #[.slice ag Lb.length cg] 26))) := TwoG.start g1 g2 26
  have HB1 := Lib.hid hb1
  clear g1 g2 hb1 HBY hbig
  go_wp2_with fail
  generalize ((w1.alloc (.cells #[.slice ap La.length cp] 26)).alloc (.cells #[.slice ag Lb.length cg] 26)) = w2 at HT ⊢
  have k3 := HT.out.box0
  have HF2 : Hid (Below w.heap.size w w2) := HB1.out.trans (HT.out.bel.mono HB1.out.size)
  refine (implCanonical_any _ La _ HT.out.g0).mono ?_
  rintro e w3 ⟨U3, n3, a3, c3, m3, b3, d3, rfl, hg3, hr3, -, -, hb3⟩
  have hst3 : Below w3.heap.size w3 (w3.alloc (.cells #[.slice a3 n3 c3] 26)) := (Below.refl _ _).alloc (Nat.le_refl _) _
  have HN3 : Hid (n3 = (canG La).length) := grid_len hg3.read
  have hT3 := (HT.out.keep hb3).keep hst3
  have hbx3 : (w3.alloc (.cells #[.slice a3 n3 c3] 26)).cell? ⟨w3.heap.size, 0, none⟩ = some (.slice a3 n3 c3) := by go_simp
  obtain ⟨W3, hW3⟩ : ∃ W3, w3.alloc (.cells #[.slice a3 n3 c3] 26) = W3 := ⟨_, rfl⟩
  have HW3 := Lib.hid hW3
  rw [hW3] at hst3 hT3 hbx3
  have HGX : Hid (∀ w', Below W3.heap.size W3 w' → GridAt w' (.slice a3 n3 c3) (canG La) ∧ RowAt w' (.slice b3 m3 d3) (canR La) ∧ w'.cell? ⟨w3.heap.size, 0, none⟩ = some (.slice a3 n3 c3)) := fun w' h => ⟨(hg3.read.keep hst3).keep h, (hr3.read.keep hst3).keep h, cell_keep h hbx3⟩
  have HT3 := Lib.hid hT3
  have HF3 : Hid (Below w.heap.size w W3) := (HF2.out.trans (hb3.mono HF2.out.size)).trans (hst3.mono (Nat.le_trans HF2.out.size hb3.size))
  have k4 : (w3.alloc (.cells #[.slice a3 n3 c3] 26)).cell? ⟨w1.heap.size + 1, 0, none⟩ = some (.slice ag Lb.length cg) := by rw [HW3.out]; exact HT3.out.box1
  clear hg3 hr3 hb3 hst3 hT3 hbx3 hW3 HF2 HT k3
  go_wp2_with fail
  rw [HW3.out]
  refine (implCanonical_any _ Lb _ HT3.out.g1).mono ?_
  rintro e w4 ⟨U4, n4, a4, c4, m4, b4, d4, rfl, hg4, -, -, -, hb4⟩
  have hst4 : Below w4.heap.size w4 (w4.alloc (.cells #[.slice a4 n4 c4] 26)) := (Below.refl _ _).alloc (Nat.le_refl _) _
  have HN4 : Hid (n4 = (canG Lb).length) := grid_len hg4.read
  have hT4 := (HT3.out.keep hb4).keep hst4
  have hbx4 : (w4.alloc (.cells #[.slice a4 n4 c4] 26)).cell? ⟨w4.heap.size, 0, none⟩ = some (.slice a4 n4 c4) := by go_simp
  obtain ⟨W4, hW4⟩ : ∃ W4, w4.alloc (.cells #[.slice a4 n4 c4] 26) = W4 := ⟨_, rfl⟩
  have HW4 := Lib.hid hW4
  rw [hW4] at hst4 hT4 hbx4
  have HB34 : Hid (Below W3.heap.size W3 W4) := hb4.trans (hst4.mono hb4.size)
  have HGY : Hid (∀ w', Below W4.heap.size W4 w' → GridAt w' (.slice a4 n4 c4) (canG Lb) ∧ w'.cell? ⟨w4.heap.size, 0, none⟩ = some (.slice a4 n4 c4)) := fun w' h => ⟨(hg4.read.keep hst4).keep h, cell_keep h hbx4⟩
  have HT4 := Lib.hid hT4
  have HF4 : Hid (Below w.heap.size w W4) := HF3.out.trans (HB34.out.mono HF3.out.size)
  have k34 : (w4.alloc (.cells #[.slice a4 n4 c4] 26)).cell? ⟨w1.heap.size, 0, none⟩ = some (.slice ap La.length cp) := by rw [HW4.out]; exact HT4.out.box0
  have k44 : (w4.alloc (.cells #[.slice a4 n4 c4] 26)).cell? ⟨w1.heap.size + 1, 0, none⟩ = some (.slice ag Lb.length cg) := by rw [HW4.out]; exact HT4.out.box1
  clear hg4 hb4 hst4 hT4 hbx4 hW4 HT3 k4
  obtain ⟨q, hq⟩ : ∃ q, alB La Lb = q := ⟨_, rfl⟩
  have HQ := Lib.hid hq
  clear hq
  have qq : (q != q) = false := by simp
  go_wp2_with fail
  rw [HW4.out]
  refine (implAlikeIn_any _ _ La Lb _ HT4.out.g0 HT4.out.g1).mono ?_
  rintro e w5 ⟨n5, a5, c5, rfl, ho5, hb5⟩
  rw [HQ.out]
  have HT5 := Lib.hid (HT4.out.keep hb5)
  have HR5 : Hid (∀ w', Below w5.heap.size w5 w' → RowAt w' (.slice a5 n5 c5) (alL La Lb)) := fun w' h => (ho5.keep h).row
  have HB5 := Lib.hid hb5
  have k35 := HT5.out.box0
  have k45 := HT5.out.box1
  clear ho5 hb5 k34 k44
  go_wp2_with fail
  refine (specAlikeIn_any _ _ La Lb _ HT5.out.g0 HT5.out.g1).mono ?_
  rintro e w6 ⟨n6, a6, c6, rfl, ho6, hb6⟩
  rw [HQ.out]
  have HB6 := Lib.hid hb6
  have HR6 := Lib.hid ho6.row
  clear ho6 hb6 k35 k45
  go_wp2_with fail
  refine (likeInts_any _ _ _ _ _ (HR5.out _ HB6.out) HR6.out).mono ?_
  rintro e w7 ⟨rfl, hd7⟩
  rw [decide_eq_true rfl]
  have HB47 : Hid (Below W4.heap.size W4 w7) := (HB5.out.trans (HB6.out.mono HB5.out.size)).trans ((hd7.below _).mono (Nat.le_trans HB5.out.size HB6.out.size))
  have HB37 : Hid (Below W3.heap.size W3 w7) := HB34.out.trans (HB47.out.mono HB34.out.size)
  have HF7 : Hid (Below w.heap.size w w7) := HF4.out.trans (HB47.out.mono HF4.out.size)
  have HT7 := Lib.hid (HT4.out.keep HB47.out)
  have kx := (HGX.out _ HB37.out).2.2
  have ky := (HGY.out _ HB47.out).2
  clear hd7 HB5 HB6 HR5 HR6 HT5 HT4
  by_cases ha : SmallP La
  · by_cases hb : SmallP Lb
    · have hcr := canon_ren ha
      have hga := canG_graph ha
      have hgb := canG_graph hb
      have hza := ha.1.1
      have hzb := hb.1.1
      have hn3 : 0 < n3 := by rw [HN3.out, hga.2]; omega
      have hn4 : 0 < n4 := by rw [HN4.out, hgb.2]; omega
      have q3 : ((n3 : Int) == 0) = false := by rw [beq_eq_false_iff_ne]; omega
      have q4 : ((n4 : Int) == 0) = false := by rw [beq_eq_false_iff_ne]; omega
      have HS1 : Hid (sameB (canG La) (canG La) = true) := by
        show _ = _
        unfold sameB
        simp [hga.1]
      have HS2 : Hid (sameB (canG La) (canG Lb) = q) := by
        show _ = _
        rw [← HQ.out, Bool.eq_iff_iff, alike_iff ha hb]
        unfold sameB
        simp [hga.1, hgb.1]
      have k37 := HT7.out.box0
      have HRN := Lib.hid (specRenamed_any (.slice ap La.length cp) (.slice b3 m3 d3) La (canR La) w7 HT7.out.g0 (HGX.out _ HB37.out).2.1)
      rw [hcr.1, hcr.2] at HRN
      clear hcr hga hgb ha hb hza hzb
      go_wp2_with fail
      refine HRN.out.mono ?_
      rintro e w8 ⟨n8, a8, c8, rfl, ho8, hb8⟩
      have hst8 : Below w8.heap.size w8 (w8.alloc (.cells #[.slice a8 n8 c8] 26)) := (Below.refl _ _).alloc (Nat.le_refl _) _
      have hbx8 : (w8.alloc (.cells #[.slice a8 n8 c8] 26)).cell? ⟨w8.heap.size, 0, none⟩ = some (.slice a8 n8 c8) := by go_simp
      obtain ⟨W8, hW8⟩ : ∃ W8, w8.alloc (.cells #[.slice a8 n8 c8] 26) = W8 := ⟨_, rfl⟩
      have HW8 := Lib.hid hW8
      rw [hW8] at hst8 hbx8
      have HB78 : Hid (Below w7.heap.size w7 W8) := hb8.trans (hst8.mono hb8.size)
      have HB38 : Hid (Below W3.heap.size W3 W8) := HB37.out.trans (HB78.out.mono HB37.out.size)
      have HB48 : Hid (Below W4.heap.size W4 W8) := HB47.out.trans (HB78.out.mono HB47.out.size)
      have HF8 : Hid (Below w.heap.size w W8) := HF7.out.trans (HB78.out.mono HF7.out.size)
      have HZ8 : Hid (GridAt W8 (.slice a8 n8 c8) (canG La)) := ho8.grid.keep hst8
      have HC1 : Hid (∀ w', Below W8.heap.size W8 w' → Calls Try.prog 14 #[.agg #[.slice a3 n3 c3], .agg #[.slice a8 n8 c8]] w' fun e w'' => e = .returned (.bool true) ∧ Below w'.heap.size w' w'') := fun w' h => by
        have := implSameGraph_any (.slice a3 n3 c3) (.slice a8 n8 c8) (canG La) (canG La) w' (HGX.out _ (HB38.out.trans (h.mono HB38.out.size))).1 (HZ8.out.keep h)
        rwa [HS1.out] at this
      have HC2 : Hid (∀ w', Below W8.heap.size W8 w' → Calls Try.prog 14 #[.agg #[.slice a3 n3 c3], .agg #[.slice a4 n4 c4]] w' fun e w'' => e = .returned (.bool q) ∧ Below w'.heap.size w' w'') := fun w' h => by
        have := implSameGraph_any (.slice a3 n3 c3) (.slice a4 n4 c4) (canG La) (canG Lb) w' (HGX.out _ (HB38.out.trans (h.mono HB38.out.size))).1 (HGY.out _ (HB48.out.trans (h.mono HB48.out.size))).1
        rwa [HS2.out] at this
      have HC3 : Hid (∀ w', Below W8.heap.size W8 w' → Calls Try.prog 15 #[.agg #[.slice a3 n3 c3]] w' (GaveRow w' (codeL (canG La)))) := fun w' h => implCodeOf_any _ _ _ (HGX.out _ (HB38.out.trans (h.mono HB38.out.size))).1
      have HC4 : Hid (∀ w', Below W8.heap.size W8 w' → Calls Try.prog 16 #[.agg #[.slice a8 n8 c8]] w' (GaveRow w' (codeL (canG La)))) := fun w' h => specCodeOf_any _ _ _ (HZ8.out.keep h)
      have hs0 : W8.cell? ⟨w3.heap.size, 0, none⟩ = some (.slice a3 n3 c3) ∧ W8.cell? ⟨w4.heap.size, 0, none⟩ = some (.slice a4 n4 c4) ∧ W8.cell? ⟨w8.heap.size, 0, none⟩ = some (.slice a8 n8 c8) := ⟨(HGX.out _ HB38.out).2.2, (HGY.out _ HB48.out).2, hbx8⟩
      have HSS : Hid (∀ w', Below W8.heap.size W8 w' → w'.cell? ⟨w3.heap.size, 0, none⟩ = some (.slice a3 n3 c3) ∧ w'.cell? ⟨w4.heap.size, 0, none⟩ = some (.slice a4 n4 c4) ∧ w'.cell? ⟨w8.heap.size, 0, none⟩ = some (.slice a8 n8 c8)) := fun w' h => ⟨cell_keep h hs0.1, cell_keep h hs0.2.1, cell_keep h hs0.2.2⟩
      have HZZ : Hid (Below W8.heap.size W8 W8.drew) := (Below.refl _ _).drew
      have qE : (q == q) = true := by simp
      clear ho8 hb8 hst8 hbx8 hW8 kx ky k37 HRN
      go_wp2_with fail
      rw [HW8.out]
      go_region_held3 (fun wx => wx.cell? ⟨w3.heap.size, 0, none⟩ = some (.slice a3 n3 c3) ∧ wx.cell? ⟨w4.heap.size, 0, none⟩ = some (.slice a4 n4 c4) ∧ wx.cell? ⟨w8.heap.size, 0, none⟩ = some (.slice a8 n8 c8)) (first | exact hs0 | with_reducible exact HSS.out _ HZZ.out | with_reducible exact HSS.out _ HBA.out | with_reducible exact HSS.out _ HBB.out | with_reducible exact HSS.out _ HBC.out | with_reducible exact HSS.out _ HBD.out | with_reducible exact HSS.out _ HBE.out)
        (first
          | (go_at_call 14; go_fit (HC1.out _ HZZ.out); rintro e wA ⟨rfl, hbA⟩; have HBA : Hid (Below W8.heap.size W8 wA) := HZZ.out.trans hbA; clear hbA)
          | (go_at_call 14; go_fit (HC2.out _ HBA.out); rintro e wB ⟨rfl, hbB⟩; have HBB : Hid (Below W8.heap.size W8 wB) := HBA.out.trans (hbB.mono HBA.out.size); clear hbB)
          | (go_at_call 15; go_fit (HC3.out _ HBB.out); rintro e wC ⟨nC, aC, cC, rfl, hoC, hbC⟩; have HBC : Hid (Below W8.heap.size W8 wC) := HBB.out.trans (hbC.mono HBB.out.size); have HOC := Lib.hid hoC; clear hbC hoC)
          | (go_at_call 16; go_fit (HC4.out _ HBC.out); rintro e wD ⟨nD, aD, cD, rfl, hoD, hbD⟩; have HBD : Hid (Below W8.heap.size W8 wD) := HBC.out.trans (hbD.mono HBC.out.size); have HLK := Lib.hid (like_same (HOC.out.keep hbD).row hoD.row); clear hbD hoD)
          | (go_at_call 12; go_fit HLK.out; rintro e wE ⟨rfl, hdE⟩; have HBE : Hid (Below W8.heap.size W8 wE) := HBD.out.trans ((hdE.below _).mono HBD.out.size); clear hdE))
      all_goals (
        have HFE : Hid (Below w.heap.size w wE) := HF8.out.trans (HBE.out.mono HF8.out.size)
        clear hs0
        go_wp2
        go_ret
        exact ⟨rfl, HFE.out⟩)
    · obtain rfl : n4 = 0 := by rw [HN4.out]; exact canG_len0 hb
      obtain rfl : q = false := by rw [← HQ.out]; exact alB_no (fun h => hb h.2)
      have hn3 : 0 < n3 := by rw [HN3.out, (canG_graph ha).2]; have := ha.1.1; omega
      have q3 : ((n3 : Int) == 0) = false := by rw [beq_eq_false_iff_ne]; omega
      clear hb ha
      go_wp2
      go_ret
      exact ⟨rfl, HF7.out⟩
  · obtain rfl : n3 = 0 := by rw [HN3.out]; exact canG_len0 ha
    obtain rfl : q = false := by rw [← HQ.out]; exact alB_no (fun h => ha h.1)
    clear ha
    go_wp2
    go_ret
    exact ⟨rfl, HF7.out⟩

end Go.Proofs.Ytgeifbgjfbfcfaa
