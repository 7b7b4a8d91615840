/- The walk of the law FnExactGraphOf, written by program (tools/lawgen2.py) out of the contracts. -/
import Derived.Test.YtehdpfbicifngaaD3
import Derived.Test.YtehdpfbicifngaaG2
import Derived.Deep.RegionHeld3
namespace Go.Proofs.Ytehdpfbicifngaa
open Go.RowKit

set_option maxHeartbeats 4000000 in
set_option maxRecDepth 100000 in
theorem lawGraphOf (x0 : Int) (v1 : Value) (L1 : List (List Int)) (w : World) (hx0 : I64 x0) (h1 : GridAt w v1 L1) :
    Calls Try.prog 9 #[.int .i64 x0, v1] w fun e w' => e = .returned (.bool true) ∧ Below w.heap.size w w' := by
  obtain ⟨a1, c1, rfl⟩ := h1.slice
  have hsr0 := ofL_small x0 L1
  obtain ⟨E0, hE0⟩ : ∃ x, x = ofL x0 L1 := ⟨_, rfl⟩
  rw [← hE0] at hsr0
  have HEQ0 := Lib.hid hE0
  clear hE0
  obtain ⟨E1, hE1⟩ : ∃ x, x = decide (OfP x0 L1) := ⟨_, rfl⟩
  have HEQ1 := Lib.hid hE1
  clear hE1
  go_enter Try.func9, Try.ntmps9
  go_wp2_with fail
  refine (szInt64SS_b _ _ _ _ h1 (by omega) (by omega)).mono ?_
  rintro e w1 ⟨rfl, hb1⟩
  have hz1 : w.heap.size ≤ w1.heap.size := hb1.size
  have HB1 : Hid (Below w.heap.size w w1) := hb1
  clear hb1
  by_cases hs1 : szGrid L1 1048576 < 0
  · go_wp2
    go_ret
    exact ⟨rfl, HB1.out⟩
  have hsm1 := (szGrid_small (L := L1) (left := 1048576) (by omega) (by omega)).1
  have hle1 := (szGrid_small (L := L1) (left := 1048576) (by omega) (by omega)).2
  go_wp2_with fail
  refine (toInt64SS_gave _ _ _ (h1.keep HB1.out) hsm1).mono ?_
  rintro e w2 ⟨np1, ap1, cp1, rfl, hop1, hb2⟩
  have Op1_2 : Hid (OwnGridU 2 34 w2 (w1.heap.size) w2.heap.size (.slice ap1 np1 cp1) L1) := (hop1.mono (by first | exact Nat.le_refl _ | simp)).under
  have hz2 : w1.heap.size ≤ w2.heap.size := hb2.size
  have HB2 : Hid (Below w.heap.size w w2) := HB1.out.trans (hb2.mono (by first | omega | (simp; omega)))
  clear HB1 hb2
  go_wp2_with fail
  refine (specGraphOf_c _ _ _ _ hx0 Op1_2.out.read).mono ?_
  rintro e w3 ⟨ns0, as0, cs0, rfl, hos0, hb3⟩
  rw [← HEQ1.out]
  have Op1_3 := Lib.hid (Op1_2.out.keep hb3)
  have Os0_3 : Hid (OwnGridU 2 34 w3 (w2.heap.size) w3.heap.size (.slice as0 ns0 cs0) E0) := (by have hq := hos0; rw [← HEQ0.out] at hq; exact (hq.mono (by first | exact Nat.le_refl _ | simp)).under)
  have hz3 : w2.heap.size ≤ w3.heap.size := hb3.size
  have HB3 : Hid (Below w.heap.size w w3) := HB2.out.trans (hb3.mono (by first | omega | (simp; omega)))
  clear Op1_2 HB2 hb3
  have ha4 : Below w3.heap.size w3 (w3.alloc (.cells #[.slice as0 ns0 cs0] 26)) := ((Below.refl _ _).alloc (Nat.le_refl _) _)
  go_wp2_with fail
  refine (toInt64SS_gave _ _ _ ((h1.keep HB3.out).keep ha4) hsm1).mono ?_
  rintro e w4 ⟨nx1, ax1, cx1, rfl, hox1, hb4⟩
  have ks0_4 : w4.cell? ⟨w3.heap.size, 0, none⟩ = some (.slice as0 ns0 cs0) := by rw [hb4.cell (by first | (simp; done) | (simp; omega))]; go_simp
  have Os0_4 := Lib.hid ((Os0_3.out.keep ha4).keep hb4)
  have Ox1_4 : Hid (OwnGridU 2 34 w4 (w3.heap.size + 1) w4.heap.size (.slice ax1 nx1 cx1) L1) := (hox1.mono (by first | exact Nat.le_refl _ | simp)).under
  have hz4 : w3.heap.size + 1 ≤ w4.heap.size := by have hq := hb4.size; simpa using hq
  have HB4 : Hid (Below w.heap.size w w4) := (HB3.out.trans (ha4.mono HB3.out.size)).trans (hb4.mono (by first | omega | (simp; omega)))
  clear Os0_3 HB3 ha4 hb4
  go_wp2_with fail
  refine (implGraphOf_c _ _ _ _ hx0 Ox1_4.out.read).mono ?_
  rintro e w5 ⟨ng0, ag0, cg0, rfl, hog0, hb5⟩
  rw [← HEQ1.out]
  have ks0_5 := cell_keep hb5 ks0_4
  have Os0_5 := Lib.hid (Os0_4.out.keep hb5)
  have Ox1_5 := Lib.hid (Ox1_4.out.keep hb5)
  have Og0_5 : Hid (OwnGridU 2 34 w5 (w4.heap.size) w5.heap.size (.slice ag0 ng0 cg0) E0) := (by have hq := hog0; rw [← HEQ0.out] at hq; exact (hq.mono (by first | exact Nat.le_refl _ | simp)).under)
  have hz5 : w4.heap.size ≤ w5.heap.size := hb5.size
  have HB5 : Hid (Below w.heap.size w w5) := HB4.out.trans (hb5.mono (by first | omega | (simp; omega)))
  clear ks0_4 Os0_4 Ox1_4 HB4 hb5
  have ha6 : Below w5.heap.size w5 (w5.alloc (.cells #[.slice ag0 ng0 cg0] 26)) := ((Below.refl _ _).alloc (Nat.le_refl _) _)
  have ks0_5a := cell_keep ha6 ks0_5
  go_wp2_with fail
  clear ks0_5a
  refine (eqGraph_any _ _ _ _ _ (Og0_5.out.read.keep ha6) (Os0_5.out.read.keep ha6)).mono ?_
  rintro e w6 ⟨rfl, hb6⟩
  rw [decide_eq_true rfl]
  have ks0_6 := cell_keep hb6 (cell_keep ha6 ks0_5)
  have kg0_6 : w6.cell? ⟨w5.heap.size, 0, none⟩ = some (.slice ag0 ng0 cg0) := by rw [hb6.cell (by first | (simp; done) | (simp; omega))]; go_simp
  have Os0_6 := Lib.hid ((Os0_5.out.keep ha6).keep hb6)
  have Ox1_6 := Lib.hid ((Ox1_5.out.keep ha6).keep hb6)
  have Og0_6 := Lib.hid ((Og0_5.out.keep ha6).keep hb6)
  have hz6 : w5.heap.size + 1 ≤ w6.heap.size := by have hq := hb6.size; simpa using hq
  have HB6 : Hid (Below w.heap.size w w6) := (HB5.out.trans (ha6.mono HB5.out.size)).trans (hb6.mono (by first | omega | (simp; omega)))
  clear ks0_5 Os0_5 Ox1_5 Og0_5 HB5 ha6 hb6
  go_wp2_with fail
  refine (toInt64SS_gave _ _ _ (h1.keep HB6.out) hsm1).mono ?_
  rintro e w7 ⟨ny1, ay1, cy1, rfl, hoy1, hb7⟩
  have ks0_7 := cell_keep hb7 ks0_6
  have kg0_7 := cell_keep hb7 kg0_6
  have Os0_7 := Lib.hid (Os0_6.out.keep hb7)
  have Ox1_7 := Lib.hid (Ox1_6.out.keep hb7)
  have Og0_7 := Lib.hid (Og0_6.out.keep hb7)
  have Oy1_7 : Hid (OwnGridU 2 34 w7 (w6.heap.size) w7.heap.size (.slice ay1 ny1 cy1) L1) := (hoy1.mono (by first | exact Nat.le_refl _ | simp)).under
  have hz7 : w6.heap.size ≤ w7.heap.size := hb7.size
  have HB7 : Hid (Below w.heap.size w w7) := HB6.out.trans (hb7.mono (by first | omega | (simp; omega)))
  clear ks0_6 kg0_6 Os0_6 Ox1_6 Og0_6 HB6 hb7
  go_wp2_with fail
  refine (eqInt64SS_b _ _ _ _ _ Ox1_7.out.read Oy1_7.out.read).mono ?_
  rintro e w8 ⟨rfl, hb8⟩
  rw [decide_eq_true rfl]
  have ks0_8 := cell_keep hb8 ks0_7
  have kg0_8 := cell_keep hb8 kg0_7
  have Os0_8 := Lib.hid (Os0_7.out.keep hb8)
  have Ox1_8 := Lib.hid (Ox1_7.out.keep hb8)
  have Og0_8 := Lib.hid (Og0_7.out.keep hb8)
  have Oy1_8 := Lib.hid (Oy1_7.out.keep hb8)
  have hz8 : w7.heap.size ≤ w8.heap.size := hb8.size
  have HB8 : Hid (Below w.heap.size w w8) := HB7.out.trans (hb8.mono (by first | omega | (simp; omega)))
  clear ks0_7 kg0_7 Os0_7 Ox1_7 Og0_7 Oy1_7 HB7 hb8
  have hone : (0 : Int) ≤ 1 := by omega
  have htt1 := totTo_le hsm1.2 L1.length (Nat.le_refl _)
  have htu1 : 1048576 * L1.length ≤ 1048576 * 1048576 := by have := hsm1.1; omega
  go_wp2_with fail
  refine (markInt64SS_any _ _ (w3.heap.size + 1) w4.heap.size _ _ Ox1_8.out (by omega) (by omega) hsm1).mono ?_
  rintro e w9 ⟨rfl, hogx1, hb9⟩
  have ks0_9 := cell_apart ks0_8 hb9 (by dsimp only; omega)
  have kg0_9 := cell_apart kg0_8 hb9 (by dsimp only; omega)
  have Os0_9 := Lib.hid (Os0_8.out.apart hb9 (by omega))
  have Og0_9 := Lib.hid (Og0_8.out.apart hb9 (by omega))
  have Ox1_9 : Hid (OwnGridU 2 34 w9 (w3.heap.size + 1) w4.heap.size (.slice ax1 nx1 cx1) (marksG L1 (1))) := hogx1
  have hz9 : w8.heap.size ≤ w9.heap.size := (hb9.size)
  have HB9 : Hid (Below w.heap.size w w9) := HB8.out.trans ((hb9.below (by first | omega | (simp; omega))).mono (by first | omega | (simp; omega)))
  clear ks0_8 kg0_8 Os0_8 Og0_8 Ox1_8 HB8 hb9
  have hkpos : 0 ≤ 1 + (totTo L1 L1.length : Int) := by omega
  go_wp2_with fail
  refine (eqGraph_any _ _ _ _ _ Og0_9.out.read Os0_9.out.read).mono ?_
  rintro e w10 ⟨rfl, hb10⟩
  rw [decide_eq_true rfl]
  have ks0_10 := cell_keep hb10 ks0_9
  have kg0_10 := cell_keep hb10 kg0_9
  have Os0_10 := Lib.hid (Os0_9.out.keep hb10)
  have Og0_10 := Lib.hid (Og0_9.out.keep hb10)
  have Ox1_10 := Lib.hid (Ox1_9.out.keep hb10)
  have hz10 : w9.heap.size ≤ w10.heap.size := hb10.size
  have HB10 : Hid (Below w.heap.size w w10) := HB9.out.trans (hb10.mono (by first | omega | (simp; omega)))
  clear ks0_9 kg0_9 Os0_9 Og0_9 Ox1_9 HB9 hb10
  have hrt0 := totTo_le hsr0.2 E0.length (Nat.le_refl _)
  have hru0 : 1048576 * E0.length ≤ 1048576 * 1048576 := by have := hsr0.1; omega
  go_wp2_with fail
  refine (markGraph_any _ _ (w4.heap.size) w5.heap.size _ _ Og0_10.out (by omega) (by omega) hsr0).mono ?_
  rintro e w11 ⟨rfl, hogg0, hb11⟩
  have ks0_11 := cell_apart ks0_10 hb11 (by dsimp only; omega)
  have kg0_11 := cell_apart kg0_10 hb11 (by dsimp only; omega)
  have Os0_11 := Lib.hid (Os0_10.out.apart hb11 (by omega))
  have Ox1_11 := Lib.hid (Ox1_10.out.apart hb11 (by omega))
  have Og0_11 : Hid (OwnGridU 2 34 w11 (w4.heap.size) w5.heap.size (.slice ag0 ng0 cg0) (marksG E0 (1))) := hogg0
  have hz11 : w10.heap.size ≤ w11.heap.size := (hb11.size)
  have HB11 : Hid (Below w.heap.size w w11) := HB10.out.trans ((hb11.below (by first | omega | (simp; omega))).mono (by first | omega | (simp; omega)))
  clear ks0_10 kg0_10 Os0_10 Ox1_10 Og0_10 HB10 hb11
  have hmpos : 0 ≤ 1 + (totTo E0 E0.length : Int) := by omega
  have hmne : ((1 + (totTo E0 E0.length : Int)) != (1 + (totTo E0 E0.length : Int))) = false := by simp
  go_wp2_with fail
  refine (heldGraph_any _ E0 _ _ Og0_11.out.read (by omega) (by omega) hsr0).mono ?_
  rintro e w12 ⟨rfl, hb12⟩
  have ks0_12 := cell_keep hb12 ks0_11
  have kg0_12 := cell_keep hb12 kg0_11
  have Os0_12 := Lib.hid (Os0_11.out.keep hb12)
  have Ox1_12 := Lib.hid (Ox1_11.out.keep hb12)
  have Og0_12 := Lib.hid (Og0_11.out.keep hb12)
  have hz12 : w11.heap.size ≤ w12.heap.size := hb12.size
  have HB12 : Hid (Below w.heap.size w w12) := HB11.out.trans (hb12.mono (by first | omega | (simp; omega)))
  clear ks0_11 kg0_11 Os0_11 Ox1_11 Og0_11 HB11 hb12
  go_wp2_with fail
  refine (toInt64SS_gave _ _ _ (h1.keep HB12.out) hsm1).mono ?_
  rintro e w13 ⟨nq1, aq1, cq1, rfl, hoq1, hb13⟩
  have ks0_13 := cell_keep hb13 ks0_12
  have kg0_13 := cell_keep hb13 kg0_12
  have Os0_13 := Lib.hid (Os0_12.out.keep hb13)
  have Ox1_13 := Lib.hid (Ox1_12.out.keep hb13)
  have Og0_13 := Lib.hid (Og0_12.out.keep hb13)
  have Oq1_13 : Hid (OwnGridU 2 34 w13 (w12.heap.size) w13.heap.size (.slice aq1 nq1 cq1) L1) := (hoq1.mono (by first | exact Nat.le_refl _ | simp)).under
  have hz13 : w12.heap.size ≤ w13.heap.size := hb13.size
  have HB13 : Hid (Below w.heap.size w w13) := HB12.out.trans (hb13.mono (by first | omega | (simp; omega)))
  clear ks0_12 kg0_12 Os0_12 Ox1_12 Og0_12 HB12 hb13
  go_wp2_with fail
  refine (implGraphOf_c _ _ _ _ hx0 Oq1_13.out.read).mono ?_
  rintro e w14 ⟨nh0, ah0, ch0, rfl, hoh0, hb14⟩
  rw [← HEQ1.out]
  have ks0_14 := cell_keep hb14 ks0_13
  have kg0_14 := cell_keep hb14 kg0_13
  have Os0_14 := Lib.hid (Os0_13.out.keep hb14)
  have Ox1_14 := Lib.hid (Ox1_13.out.keep hb14)
  have Og0_14 := Lib.hid (Og0_13.out.keep hb14)
  have Oq1_14 := Lib.hid (Oq1_13.out.keep hb14)
  have Oh0_14 : Hid (OwnGridU 2 34 w14 (w13.heap.size) w14.heap.size (.slice ah0 nh0 ch0) E0) := (by have hq := hoh0; rw [← HEQ0.out] at hq; exact (hq.mono (by first | exact Nat.le_refl _ | simp)).under)
  have hz14 : w13.heap.size ≤ w14.heap.size := hb14.size
  have HB14 : Hid (Below w.heap.size w w14) := HB13.out.trans (hb14.mono (by first | omega | (simp; omega)))
  clear ks0_13 kg0_13 Os0_13 Ox1_13 Og0_13 Oq1_13 HB13 hb14
  have ha15 : Below w14.heap.size w14 (w14.alloc (.cells #[.slice ah0 nh0 ch0] 26)) := ((Below.refl _ _).alloc (Nat.le_refl _) _)
  have ks0_14a := cell_keep ha15 ks0_14
  have kg0_14a := cell_keep ha15 kg0_14
  go_wp2_with fail
  clear ks0_14a kg0_14a
  refine (eqGraph_any _ _ _ _ _ (Oh0_14.out.read.keep ha15) (Os0_14.out.read.keep ha15)).mono ?_
  rintro e w15 ⟨rfl, hb15⟩
  rw [decide_eq_true rfl]
  have ks0_15 := cell_keep hb15 (cell_keep ha15 ks0_14)
  have kg0_15 := cell_keep hb15 (cell_keep ha15 kg0_14)
  have kh0_15 : w15.cell? ⟨w14.heap.size, 0, none⟩ = some (.slice ah0 nh0 ch0) := by rw [hb15.cell (by first | (simp; done) | (simp; omega))]; go_simp
  have Os0_15 := Lib.hid ((Os0_14.out.keep ha15).keep hb15)
  have Ox1_15 := Lib.hid ((Ox1_14.out.keep ha15).keep hb15)
  have Og0_15 := Lib.hid ((Og0_14.out.keep ha15).keep hb15)
  have Oh0_15 := Lib.hid ((Oh0_14.out.keep ha15).keep hb15)
  have hz15 : w14.heap.size + 1 ≤ w15.heap.size := by have hq := hb15.size; simpa using hq
  have HB15 : Hid (Below w.heap.size w w15) := (HB14.out.trans (ha15.mono HB14.out.size)).trans (hb15.mono (by first | omega | (simp; omega)))
  clear ks0_14 kg0_14 Os0_14 Ox1_14 Og0_14 Oh0_14 HB14 ha15 hb15
  go_wp2_with fail
  refine (heldGraph_any _ E0 _ _ Og0_15.out.read (by omega) (by omega) hsr0).mono ?_
  rintro e w16 ⟨rfl, hb16⟩
  have ks0_16 := cell_keep hb16 ks0_15
  have kg0_16 := cell_keep hb16 kg0_15
  have kh0_16 := cell_keep hb16 kh0_15
  have Os0_16 := Lib.hid (Os0_15.out.keep hb16)
  have Ox1_16 := Lib.hid (Ox1_15.out.keep hb16)
  have Og0_16 := Lib.hid (Og0_15.out.keep hb16)
  have Oh0_16 := Lib.hid (Oh0_15.out.keep hb16)
  have hz16 : w15.heap.size ≤ w16.heap.size := hb16.size
  have HB16 : Hid (Below w.heap.size w w16) := HB15.out.trans (hb16.mono (by first | omega | (simp; omega)))
  clear ks0_15 kg0_15 kh0_15 Os0_15 Ox1_15 Og0_15 Oh0_15 HB15 hb16
  go_wp2
  go_ret
  exact ⟨rfl, HB16.out⟩

end Go.Proofs.Ytehdpfbicifngaa
