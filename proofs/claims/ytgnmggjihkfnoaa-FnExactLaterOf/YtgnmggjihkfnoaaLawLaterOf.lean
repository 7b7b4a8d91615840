/- The walk of the law FnExactLaterOf, written by program (tools/lawgen2.py) out of the contracts. -/
import Derived.Test.YtgnmggjihkfnoaaQMark
import Derived.Test.YtgnmggjihkfnoaaER10
import Derived.Deep.RegionHeld3

namespace Go.Proofs.Ytgnmggjihkfnoaa
open Go.RowKit

set_option maxHeartbeats 4000000 in
set_option maxRecDepth 100000 in
theorem lawLaterOf (v0 : Value) (L0 : List (List Int)) (v1 : Value) (L1 : List Int) (w : World) (h0 : GridAt w v0 L0) (h1 : RowAt w v1 L1) :
    Calls Try.prog 6 #[.agg #[v0], v1] w fun e w' => e = .returned (.bool true) ∧ Below w.heap.size w w' := by
  obtain ⟨a0, c0, rfl⟩ := h0.slice
  obtain ⟨a1, c1, rfl⟩ := h1.slice
  have hl1 := h1.len
  unfold maxLen at hl1
  by_cases hr1 : (1048576 : Int) < (L1.length : Int)
  · go_enter Try.func6, Try.ntmps6
    go_wp2
    go_ret
    exact ⟨rfl, (Below.refl _ _).alloc (by first | (simp; done) | (simp; omega)) _⟩
  have hr1' : L1.length ≤ 1048576 := by omega
  have hsr0 := laterL_small L0 L1
  obtain ⟨E0, hE0⟩ : ∃ x, x = laterL L0 L1 := ⟨_, rfl⟩
  rw [← hE0] at hsr0
  have HEQ0 := Lib.hid hE0
  clear hE0
  go_enter Try.func6, Try.ntmps6
  have ha1 : Below w.heap.size w (w.alloc (.cells #[.slice a0 L0.length c0] 45)) := ((Below.refl _ _).alloc (Nat.le_refl _) _)
  go_wp2_with fail
  refine (szGraph_any _ _ _ _ (h0.keep ha1) (by omega) (by omega)).mono ?_
  rintro e w1 ⟨rfl, hb1⟩
  have kb0_1 : w1.cell? ⟨w.heap.size, 0, none⟩ = some (.slice a0 L0.length c0) := by rw [hb1.cell (by first | (simp; done) | (simp; omega))]; go_simp
  have hz1 : w.heap.size + 1 ≤ w1.heap.size := by have hq := hb1.size; simpa using hq
  have HB1 : Hid (Below w.heap.size w w1) := ha1.trans (hb1.mono (by first | (simp; done) | (simp; omega)))
  clear ha1 hb1
  by_cases hs0 : szGrid L0 1048576 < 0
  · go_wp2
    go_ret
    exact ⟨rfl, HB1.out⟩
  have hsm0 := (szGrid_small (L := L0) (left := 1048576) (by omega) (by omega)).1
  have hle0 := (szGrid_small (L := L0) (left := 1048576) (by omega) (by omega)).2
  go_wp2_with fail
  refine (toGraph_any _ _ _ (h0.keep HB1.out) hsm0).mono ?_
  rintro e w2 ⟨np0, ap0, cp0, rfl, hop0, hb2⟩
  have kb0_2 := cell_keep hb2 kb0_1
  have Op0_2 : Hid (OwnGridU 2 31 w2 (w1.heap.size) w2.heap.size (.slice ap0 np0 cp0) L0) := (hop0.mono (by first | exact Nat.le_refl _ | simp)).under
  have hz2 : w1.heap.size ≤ w2.heap.size := hb2.size
  have HB2 : Hid (Below w.heap.size w w2) := HB1.out.trans (hb2.mono (by first | omega | (simp; omega)))
  clear kb0_1 HB1 hb2
  go_wp2_with fail
  refine (toInt64S_gave _ _ _ (h1.keep HB2.out) hr1').mono ?_
  rintro e w3 ⟨np1, ap1, cp1, rfl, hop1, hb3⟩
  have kb0_3 := cell_keep hb3 kb0_2
  have Op0_3 := Lib.hid (Op0_2.out.keep hb3)
  have Op1_3 : Hid (OwnRowU 2 w3 (w2.heap.size) w3.heap.size (.slice ap1 np1 cp1) L1) := (hop1.mono (by first | exact Nat.le_refl _ | simp)).under
  have hz3 : w2.heap.size ≤ w3.heap.size := hb3.size
  have HB3 : Hid (Below w.heap.size w w3) := HB2.out.trans (hb3.mono (by first | omega | (simp; omega)))
  clear kb0_2 Op0_2 HB2 hb3
  go_wp2_with fail
  refine (specLaterOf_any _ _ _ _ _ Op0_3.out.read Op1_3.out.read).mono ?_
  rintro e w4 ⟨ns0, as0, cs0, rfl, hos0, hb4⟩
  have kb0_4 := cell_keep hb4 kb0_3
  have Op0_4 := Lib.hid (Op0_3.out.keep hb4)
  have Op1_4 := Lib.hid (Op1_3.out.keep hb4)
  have Os0_4 : Hid (OwnGridU 2 31 w4 (w3.heap.size) w4.heap.size (.slice as0 ns0 cs0) E0) := (by have hq := hos0; rw [← HEQ0.out] at hq; exact (hq.mono (by first | exact Nat.le_refl _ | simp)).under)
  have hz4 : w3.heap.size ≤ w4.heap.size := hb4.size
  have HB4 : Hid (Below w.heap.size w w4) := HB3.out.trans (hb4.mono (by first | omega | (simp; omega)))
  clear kb0_3 Op0_3 Op1_3 HB3 hb4
  go_wp2_with fail
  refine (toGraph_any _ _ _ (h0.keep HB4.out) hsm0).mono ?_
  rintro e w5 ⟨nx0, ax0, cx0, rfl, hox0, hb5⟩
  have kb0_5 := cell_keep hb5 kb0_4
  have Os0_5 := Lib.hid (Os0_4.out.keep hb5)
  have Ox0_5 : Hid (OwnGridU 2 31 w5 (w4.heap.size) w5.heap.size (.slice ax0 nx0 cx0) L0) := (hox0.mono (by first | exact Nat.le_refl _ | simp)).under
  have hz5 : w4.heap.size ≤ w5.heap.size := hb5.size
  have HB5 : Hid (Below w.heap.size w w5) := HB4.out.trans (hb5.mono (by first | omega | (simp; omega)))
  clear kb0_4 Os0_4 HB4 hb5
  have ha6 : Below w5.heap.size w5 (w5.alloc (.cells #[.slice ax0 nx0 cx0] 29)) := ((Below.refl _ _).alloc (Nat.le_refl _) _)
  have kb0_5a := cell_keep ha6 kb0_5
  go_wp2_with fail
  clear kb0_5a
  refine (toInt64S_gave _ _ _ ((h1.keep HB5.out).keep ha6) hr1').mono ?_
  rintro e w6 ⟨nx1, ax1, cx1, rfl, hox1, hb6⟩
  have kb0_6 := cell_keep hb6 (cell_keep ha6 kb0_5)
  have kx0_6 : w6.cell? ⟨w5.heap.size, 0, none⟩ = some (.slice ax0 nx0 cx0) := by rw [hb6.cell (by first | (simp; done) | (simp; omega))]; go_simp
  have Os0_6 := Lib.hid ((Os0_5.out.keep ha6).keep hb6)
  have Ox0_6 := Lib.hid ((Ox0_5.out.keep ha6).keep hb6)
  have Ox1_6 : Hid (OwnRowU 2 w6 (w5.heap.size + 1) w6.heap.size (.slice ax1 nx1 cx1) L1) := (hox1.mono (by first | exact Nat.le_refl _ | simp)).under
  have hz6 : w5.heap.size + 1 ≤ w6.heap.size := by have hq := hb6.size; simpa using hq
  have HB6 : Hid (Below w.heap.size w w6) := (HB5.out.trans (ha6.mono HB5.out.size)).trans (hb6.mono (by first | omega | (simp; omega)))
  clear kb0_5 Os0_5 Ox0_5 HB5 ha6 hb6
  go_wp2_with fail
  refine (implLaterOf_any _ _ _ _ _ Ox0_6.out.read Ox1_6.out.read).mono ?_
  rintro e w7 ⟨ng0, ag0, cg0, rfl, hog0, hb7⟩
  have kb0_7 := cell_keep hb7 kb0_6
  have kx0_7 := cell_keep hb7 kx0_6
  have Os0_7 := Lib.hid (Os0_6.out.keep hb7)
  have Ox0_7 := Lib.hid (Ox0_6.out.keep hb7)
  have Ox1_7 := Lib.hid (Ox1_6.out.keep hb7)
  have Og0_7 : Hid (OwnGridU 2 31 w7 (w6.heap.size) w7.heap.size (.slice ag0 ng0 cg0) E0) := (by have hq := hog0; rw [← HEQ0.out] at hq; exact (hq.mono (by first | exact Nat.le_refl _ | simp)).under)
  have hz7 : w6.heap.size ≤ w7.heap.size := hb7.size
  have HB7 : Hid (Below w.heap.size w w7) := HB6.out.trans (hb7.mono (by first | omega | (simp; omega)))
  clear kb0_6 kx0_6 Os0_6 Ox0_6 Ox1_6 HB6 hb7
  go_wp2_with fail
  refine (eqInt64SS_b _ _ _ _ _ Og0_7.out.read Os0_7.out.read).mono ?_
  rintro e w8 ⟨rfl, hb8⟩
  rw [decide_eq_true rfl]
  have kb0_8 := cell_keep hb8 kb0_7
  have kx0_8 := cell_keep hb8 kx0_7
  have Os0_8 := Lib.hid (Os0_7.out.keep hb8)
  have Ox0_8 := Lib.hid (Ox0_7.out.keep hb8)
  have Ox1_8 := Lib.hid (Ox1_7.out.keep hb8)
  have Og0_8 := Lib.hid (Og0_7.out.keep hb8)
  have hz8 : w7.heap.size ≤ w8.heap.size := hb8.size
  have HB8 : Hid (Below w.heap.size w w8) := HB7.out.trans (hb8.mono (by first | omega | (simp; omega)))
  clear kb0_7 kx0_7 Os0_7 Ox0_7 Ox1_7 Og0_7 HB7 hb8
  go_wp2
  go_region_held3 (fun wx => wx.cell? ⟨w.heap.size, 0, none⟩ = some (.slice a0 L0.length c0) ∧ wx.cell? ⟨w5.heap.size, 0, none⟩ = some (.slice ax0 nx0 cx0)) (first | exact ⟨kb0_8, kx0_8⟩ | exact ⟨kb0_9r1, kx0_9r1⟩ | exact ⟨kb0_9r2, kx0_9r2⟩)
    (first | (go_at_call 38; refine (toGraph_any _ _ _ ((h0.keep HB8.out).keep (Below.refl _ _).drew) hsm0).mono ?_; rintro e w9r1 ⟨ny0, ay0, cy0, rfl, hoy0, hb9r1⟩; have kb0_9r1 := cell_keep hb9r1 (cell_keep (Below.refl _ _).drew kb0_8); have kx0_9r1 := cell_keep hb9r1 (cell_keep (Below.refl _ _).drew kx0_8); have Os0_9r1 := Lib.hid ((Os0_8.out.keep (Below.refl _ _).drew).keep hb9r1); have Ox0_9r1 := Lib.hid ((Ox0_8.out.keep (Below.refl _ _).drew).keep hb9r1); have Ox1_9r1 := Lib.hid ((Ox1_8.out.keep (Below.refl _ _).drew).keep hb9r1); have Og0_9r1 := Lib.hid ((Og0_8.out.keep (Below.refl _ _).drew).keep hb9r1); have Oy0_9r1 : Hid (OwnGridU 2 31 w9r1 (w8.heap.size) w9r1.heap.size (.slice ay0 ny0 cy0) L0) := (hoy0.mono (by first | exact Nat.le_refl _ | simp)).under; have hz9r1 : w8.heap.size ≤ w9r1.heap.size := hb9r1.size; have HB9r1 : Hid (Below w.heap.size w w9r1) := HB8.out.drew.trans (hb9r1.mono HB8.out.size); clear hb9r1) | (go_at_call 40; refine (eqGraph_any _ _ _ _ _ Ox0_9r1.out.read Oy0_9r1.out.read).mono ?_; rintro e w9r2 ⟨rfl, hb9r2⟩; have kb0_9r2 := cell_keep hb9r2 kb0_9r1; have kx0_9r2 := cell_keep hb9r2 kx0_9r1; have Os0_9r2 := Lib.hid (Os0_9r1.out.keep hb9r2); have Ox0_9r2 := Lib.hid (Ox0_9r1.out.keep hb9r2); have Ox1_9r2 := Lib.hid (Ox1_9r1.out.keep hb9r2); have Og0_9r2 := Lib.hid (Og0_9r1.out.keep hb9r2); have Oy0_9r2 := Lib.hid (Oy0_9r1.out.keep hb9r2); have hz9r2 : w9r1.heap.size ≤ w9r2.heap.size := hb9r2.size; have HB9r2 : Hid (Below w.heap.size w w9r2) := HB9r1.out.trans (hb9r2.mono HB9r1.out.size); clear hb9r2; rw [decide_eq_true rfl]))
  clear kb0_8 kx0_8 Os0_8 Ox0_8 Ox1_8 Og0_8 HB8 kb0_9r1 kx0_9r1 Os0_9r1 Ox0_9r1 Ox1_9r1 Og0_9r1 Oy0_9r1 HB9r1
  go_wp2_with fail
  refine (toInt64S_gave _ _ _ (h1.keep HB9r2.out) hr1').mono ?_
  rintro e w10 ⟨ny1, ay1, cy1, rfl, hoy1, hb10⟩
  have kb0_10 := cell_keep hb10 kb0_9r2
  have kx0_10 := cell_keep hb10 kx0_9r2
  have Os0_10 := Lib.hid (Os0_9r2.out.keep hb10)
  have Ox0_10 := Lib.hid (Ox0_9r2.out.keep hb10)
  have Ox1_10 := Lib.hid (Ox1_9r2.out.keep hb10)
  have Og0_10 := Lib.hid (Og0_9r2.out.keep hb10)
  have Oy1_10 : Hid (OwnRowU 2 w10 (w9r2.heap.size) w10.heap.size (.slice ay1 ny1 cy1) L1) := (hoy1.mono (by first | exact Nat.le_refl _ | simp)).under
  have hz10 : w9r2.heap.size ≤ w10.heap.size := hb10.size
  have HB10 : Hid (Below w.heap.size w w10) := HB9r2.out.trans (hb10.mono (by first | omega | (simp; omega)))
  clear kb0_9r2 kx0_9r2 Os0_9r2 Ox0_9r2 Ox1_9r2 Og0_9r2 HB9r2 hb10
  go_wp2_with fail
  refine (eqInt64S_b _ _ _ _ _ Ox1_10.out.read Oy1_10.out.read).mono ?_
  rintro e w11 ⟨rfl, hb11⟩
  rw [decide_eq_true rfl]
  have kb0_11 := cell_keep hb11 kb0_10
  have kx0_11 := cell_keep hb11 kx0_10
  have Os0_11 := Lib.hid (Os0_10.out.keep hb11)
  have Ox0_11 := Lib.hid (Ox0_10.out.keep hb11)
  have Ox1_11 := Lib.hid (Ox1_10.out.keep hb11)
  have Og0_11 := Lib.hid (Og0_10.out.keep hb11)
  have Oy1_11 := Lib.hid (Oy1_10.out.keep hb11)
  have hz11 : w10.heap.size ≤ w11.heap.size := hb11.size
  have HB11 : Hid (Below w.heap.size w w11) := HB10.out.trans (hb11.mono (by first | omega | (simp; omega)))
  clear kb0_10 kx0_10 Os0_10 Ox0_10 Ox1_10 Og0_10 Oy1_10 HB10 hb11
  have hone : (0 : Int) ≤ 1 := by omega
  have htt0 := totTo_le hsm0.2 L0.length (Nat.le_refl _)
  have htu0 : 1048576 * L0.length ≤ 1048576 * 1048576 := by have := hsm0.1; omega
  go_wp2_with fail
  refine (markGraph_any _ _ (w4.heap.size) w5.heap.size _ _ Ox0_11.out (by omega) (by omega) hsm0).mono ?_
  rintro e w12 ⟨rfl, hogx0, hb12⟩
  have kb0_12 := cell_apart kb0_11 hb12 (by dsimp only; omega)
  have kx0_12 := cell_apart kx0_11 hb12 (by dsimp only; omega)
  have Os0_12 := Lib.hid (Os0_11.out.apart hb12 (by omega))
  have Ox1_12 := Lib.hid (Ox1_11.out.apart hb12 (by omega))
  have Og0_12 := Lib.hid (Og0_11.out.apart hb12 (by omega))
  have Ox0_12 : Hid (OwnGridU 2 31 w12 (w4.heap.size) w5.heap.size (.slice ax0 nx0 cx0) (marksG L0 (1))) := hogx0
  have hz12 : w11.heap.size ≤ w12.heap.size := (hb12.size)
  have HB12 : Hid (Below w.heap.size w w12) := HB11.out.trans ((hb12.below (by first | omega | (simp; omega))).mono (by first | omega | (simp; omega)))
  clear kb0_11 kx0_11 Os0_11 Ox1_11 Og0_11 Ox0_11 HB11 hb12
  go_wp2_with fail
  refine (markInt64S_any _ _ (w5.heap.size + 1) w6.heap.size _ _ Ox1_12.out (by omega) (by omega)).mono ?_
  rintro e w13 ⟨rfl, hogx1, hb13, _, _⟩
  have kb0_13 := cell_apart kb0_12 hb13 (by dsimp only; omega)
  have kx0_13 := cell_apart kx0_12 hb13 (by dsimp only; omega)
  have Os0_13 := Lib.hid (Os0_12.out.apart hb13 (by omega))
  have Og0_13 := Lib.hid (Og0_12.out.apart hb13 (by omega))
  have Ox0_13 := Lib.hid (Ox0_12.out.apart hb13 (by omega))
  have Ox1_13 : Hid (OwnRowU 2 w13 (w5.heap.size + 1) w6.heap.size (.slice ax1 nx1 cx1) (seqFrom (1 + (totTo L0 L0.length : Int)) L1.length)) := hogx1
  have hz13 : w12.heap.size ≤ w13.heap.size := (hb13.size)
  have HB13 : Hid (Below w.heap.size w w13) := HB12.out.trans ((hb13.below (by first | omega | (simp; omega))).mono (by first | omega | (simp; omega)))
  clear kb0_12 kx0_12 Os0_12 Og0_12 Ox0_12 Ox1_12 HB12 hb13
  have hkpos : 0 ≤ 1 + (totTo L0 L0.length : Int) + (L1.length : Int) := by omega
  go_wp2_with fail
  refine (eqInt64SS_b _ _ _ _ _ Og0_13.out.read Os0_13.out.read).mono ?_
  rintro e w14 ⟨rfl, hb14⟩
  rw [decide_eq_true rfl]
  have kb0_14 := cell_keep hb14 kb0_13
  have kx0_14 := cell_keep hb14 kx0_13
  have Os0_14 := Lib.hid (Os0_13.out.keep hb14)
  have Og0_14 := Lib.hid (Og0_13.out.keep hb14)
  have Ox0_14 := Lib.hid (Ox0_13.out.keep hb14)
  have Ox1_14 := Lib.hid (Ox1_13.out.keep hb14)
  have hz14 : w13.heap.size ≤ w14.heap.size := hb14.size
  have HB14 : Hid (Below w.heap.size w w14) := HB13.out.trans (hb14.mono (by first | omega | (simp; omega)))
  clear kb0_13 kx0_13 Os0_13 Og0_13 Ox0_13 Ox1_13 HB13 hb14
  have hrt0 := totTo_le hsr0.2 E0.length (Nat.le_refl _)
  have hru0 : 1048576 * E0.length ≤ 1048576 * 1048576 := by have := hsr0.1; omega
  go_wp2_with fail
  refine (markInt64SS_any _ _ (w6.heap.size) w7.heap.size _ _ Og0_14.out (by omega) (by omega) hsr0).mono ?_
  rintro e w15 ⟨rfl, hogg0, hb15⟩
  have kb0_15 := cell_apart kb0_14 hb15 (by dsimp only; omega)
  have kx0_15 := cell_apart kx0_14 hb15 (by dsimp only; omega)
  have Os0_15 := Lib.hid (Os0_14.out.apart hb15 (by omega))
  have Ox0_15 := Lib.hid (Ox0_14.out.apart hb15 (by omega))
  have Ox1_15 := Lib.hid (Ox1_14.out.apart hb15 (by omega))
  have Og0_15 : Hid (OwnGridU 2 31 w15 (w6.heap.size) w7.heap.size (.slice ag0 ng0 cg0) (marksG E0 (1))) := hogg0
  have hz15 : w14.heap.size ≤ w15.heap.size := (hb15.size)
  have HB15 : Hid (Below w.heap.size w w15) := HB14.out.trans ((hb15.below (by first | omega | (simp; omega))).mono (by first | omega | (simp; omega)))
  clear kb0_14 kx0_14 Os0_14 Ox0_14 Ox1_14 Og0_14 HB14 hb15
  have hmpos : 0 ≤ 1 + (totTo E0 E0.length : Int) := by omega
  have hmne : ((1 + (totTo E0 E0.length : Int)) != (1 + (totTo E0 E0.length : Int))) = false := by simp
  go_wp2_with fail
  refine (heldInt64SS_b _ E0 _ _ Og0_15.out.read (by omega) (by omega) hsr0).mono ?_
  rintro e w16 ⟨rfl, hb16⟩
  have kb0_16 := cell_keep hb16 kb0_15
  have kx0_16 := cell_keep hb16 kx0_15
  have Os0_16 := Lib.hid (Os0_15.out.keep hb16)
  have Ox0_16 := Lib.hid (Ox0_15.out.keep hb16)
  have Ox1_16 := Lib.hid (Ox1_15.out.keep hb16)
  have Og0_16 := Lib.hid (Og0_15.out.keep hb16)
  have hz16 : w15.heap.size ≤ w16.heap.size := hb16.size
  have HB16 : Hid (Below w.heap.size w w16) := HB15.out.trans (hb16.mono (by first | omega | (simp; omega)))
  clear kb0_15 kx0_15 Os0_15 Ox0_15 Ox1_15 Og0_15 HB15 hb16
  go_wp2_with fail
  refine (toGraph_any _ _ _ (h0.keep HB16.out) hsm0).mono ?_
  rintro e w17 ⟨nq0, aq0, cq0, rfl, hoq0, hb17⟩
  have kb0_17 := cell_keep hb17 kb0_16
  have kx0_17 := cell_keep hb17 kx0_16
  have Os0_17 := Lib.hid (Os0_16.out.keep hb17)
  have Ox0_17 := Lib.hid (Ox0_16.out.keep hb17)
  have Ox1_17 := Lib.hid (Ox1_16.out.keep hb17)
  have Og0_17 := Lib.hid (Og0_16.out.keep hb17)
  have Oq0_17 : Hid (OwnGridU 2 31 w17 (w16.heap.size) w17.heap.size (.slice aq0 nq0 cq0) L0) := (hoq0.mono (by first | exact Nat.le_refl _ | simp)).under
  have hz17 : w16.heap.size ≤ w17.heap.size := hb17.size
  have HB17 : Hid (Below w.heap.size w w17) := HB16.out.trans (hb17.mono (by first | omega | (simp; omega)))
  clear kb0_16 kx0_16 Os0_16 Ox0_16 Ox1_16 Og0_16 HB16 hb17
  go_wp2_with fail
  refine (toInt64S_gave _ _ _ (h1.keep HB17.out) hr1').mono ?_
  rintro e w18 ⟨nq1, aq1, cq1, rfl, hoq1, hb18⟩
  have kb0_18 := cell_keep hb18 kb0_17
  have kx0_18 := cell_keep hb18 kx0_17
  have Os0_18 := Lib.hid (Os0_17.out.keep hb18)
  have Ox0_18 := Lib.hid (Ox0_17.out.keep hb18)
  have Ox1_18 := Lib.hid (Ox1_17.out.keep hb18)
  have Og0_18 := Lib.hid (Og0_17.out.keep hb18)
  have Oq0_18 := Lib.hid (Oq0_17.out.keep hb18)
  have Oq1_18 : Hid (OwnRowU 2 w18 (w17.heap.size) w18.heap.size (.slice aq1 nq1 cq1) L1) := (hoq1.mono (by first | exact Nat.le_refl _ | simp)).under
  have hz18 : w17.heap.size ≤ w18.heap.size := hb18.size
  have HB18 : Hid (Below w.heap.size w w18) := HB17.out.trans (hb18.mono (by first | omega | (simp; omega)))
  clear kb0_17 kx0_17 Os0_17 Ox0_17 Ox1_17 Og0_17 Oq0_17 HB17 hb18
  go_wp2_with fail
  refine (implLaterOf_any _ _ _ _ _ Oq0_18.out.read Oq1_18.out.read).mono ?_
  rintro e w19 ⟨nh0, ah0, ch0, rfl, hoh0, hb19⟩
  have kb0_19 := cell_keep hb19 kb0_18
  have kx0_19 := cell_keep hb19 kx0_18
  have Os0_19 := Lib.hid (Os0_18.out.keep hb19)
  have Ox0_19 := Lib.hid (Ox0_18.out.keep hb19)
  have Ox1_19 := Lib.hid (Ox1_18.out.keep hb19)
  have Og0_19 := Lib.hid (Og0_18.out.keep hb19)
  have Oq0_19 := Lib.hid (Oq0_18.out.keep hb19)
  have Oq1_19 := Lib.hid (Oq1_18.out.keep hb19)
  have Oh0_19 : Hid (OwnGridU 2 31 w19 (w18.heap.size) w19.heap.size (.slice ah0 nh0 ch0) E0) := (by have hq := hoh0; rw [← HEQ0.out] at hq; exact (hq.mono (by first | exact Nat.le_refl _ | simp)).under)
  have hz19 : w18.heap.size ≤ w19.heap.size := hb19.size
  have HB19 : Hid (Below w.heap.size w w19) := HB18.out.trans (hb19.mono (by first | omega | (simp; omega)))
  clear kb0_18 kx0_18 Os0_18 Ox0_18 Ox1_18 Og0_18 Oq0_18 Oq1_18 HB18 hb19
  go_wp2_with fail
  refine (eqInt64SS_b _ _ _ _ _ Oh0_19.out.read Os0_19.out.read).mono ?_
  rintro e w20 ⟨rfl, hb20⟩
  rw [decide_eq_true rfl]
  have kb0_20 := cell_keep hb20 kb0_19
  have kx0_20 := cell_keep hb20 kx0_19
  have Os0_20 := Lib.hid (Os0_19.out.keep hb20)
  have Ox0_20 := Lib.hid (Ox0_19.out.keep hb20)
  have Ox1_20 := Lib.hid (Ox1_19.out.keep hb20)
  have Og0_20 := Lib.hid (Og0_19.out.keep hb20)
  have Oh0_20 := Lib.hid (Oh0_19.out.keep hb20)
  have hz20 : w19.heap.size ≤ w20.heap.size := hb20.size
  have HB20 : Hid (Below w.heap.size w w20) := HB19.out.trans (hb20.mono (by first | omega | (simp; omega)))
  clear kb0_19 kx0_19 Os0_19 Ox0_19 Ox1_19 Og0_19 Oh0_19 HB19 hb20
  go_wp2_with fail
  refine (heldInt64SS_b _ E0 _ _ Og0_20.out.read (by omega) (by omega) hsr0).mono ?_
  rintro e w21 ⟨rfl, hb21⟩
  have kb0_21 := cell_keep hb21 kb0_20
  have kx0_21 := cell_keep hb21 kx0_20
  have Os0_21 := Lib.hid (Os0_20.out.keep hb21)
  have Ox0_21 := Lib.hid (Ox0_20.out.keep hb21)
  have Ox1_21 := Lib.hid (Ox1_20.out.keep hb21)
  have Og0_21 := Lib.hid (Og0_20.out.keep hb21)
  have Oh0_21 := Lib.hid (Oh0_20.out.keep hb21)
  have hz21 : w20.heap.size ≤ w21.heap.size := hb21.size
  have HB21 : Hid (Below w.heap.size w w21) := HB20.out.trans (hb21.mono (by first | omega | (simp; omega)))
  clear kb0_20 kx0_20 Os0_20 Ox0_20 Ox1_20 Og0_20 Oh0_20 HB20 hb21
  go_wp2
  go_ret
  exact ⟨rfl, HB21.out⟩

end Go.Proofs.Ytgnmggjihkfnoaa
