/- The walk of the law FnExactCliquesOf, written by program (tools/lawgen2.py) out of the contracts. -/
import Derived.Test.YtmfolclpddoplaaQMark
import Derived.Test.YtmfolclpddoplaaQCL7
import Derived.Deep.RegionHeld3

namespace Go.Proofs.Ytmfolclpddoplaa
open Go.RowKit

set_option maxHeartbeats 4000000 in
set_option maxRecDepth 100000 in
theorem lawCliquesOf (v0 : Value) (L0 : List (List Int)) (w : World) (h0 : GridAt w v0 L0) :
    Calls Try.prog 12 #[.agg #[v0]] w fun e w' => e = .returned (.bool true) ∧ Below w.heap.size w w' := by
  obtain ⟨a0, c0, rfl⟩ := h0.slice
  have hsr0 := cqlL_small L0
  obtain ⟨E0, hE0⟩ : ∃ x, x = cqlL L0 := ⟨_, rfl⟩
  rw [← hE0] at hsr0
  have HEQ0 := Lib.hid hE0
  clear hE0
  go_enter Try.func12, Try.ntmps12
  have ha1 : Below w.heap.size w (w.alloc (.cells #[.slice a0 L0.length c0] 44)) := ((Below.refl _ _).alloc (Nat.le_refl _) _)
  go_wp2_with fail
  refine (szGraph_any _ _ _ _ (h0.keep ha1) (by omega) (by omega)).mono ?_
  rintro e w1 ⟨rfl, hb1⟩
  have kb0_1 : w1.cell? ⟨w.heap.size, 0, none⟩ = some (.slice a0 L0.length c0) := by rw [hb1.cell (by first | (simp; done) | (simp; omega))]; go_simp
  have hz1 : w.heap.size + 1 ≤ w1.heap.size := by have hq := hb1.size; simpa using hq
  have HB1 : Hid (Below w.heap.size w w1) := ha1.trans (hb1.mono (by first | (simp; done) | (simp; omega)))
  clear ha1 hb1
  by_cases hs0 : szGrid L0 1048576 < 0
  · go_wp2
    go_ret
    exact ⟨rfl, HB1.out⟩
  have hsm0 := (szGrid_small (L := L0) (left := 1048576) (by omega) (by omega)).1
  have hle0 := (szGrid_small (L := L0) (left := 1048576) (by omega) (by omega)).2
  go_wp2_with fail
  refine (toGraph_any _ _ _ (h0.keep HB1.out) hsm0).mono ?_
  rintro e w2 ⟨np0, ap0, cp0, rfl, hop0, hb2⟩
  have kb0_2 := cell_keep hb2 kb0_1
  have Op0_2 : Hid (OwnGridU 2 31 w2 (w1.heap.size) w2.heap.size (.slice ap0 np0 cp0) L0) := (hop0.mono (by first | exact Nat.le_refl _ | simp)).under
  have hz2 : w1.heap.size ≤ w2.heap.size := hb2.size
  have HB2 : Hid (Below w.heap.size w w2) := HB1.out.trans (hb2.mono (by first | omega | (simp; omega)))
  clear kb0_1 HB1 hb2
  go_wp2_with fail
  refine (specCliquesOf_any _ _ _ Op0_2.out.read).mono ?_
  rintro e w3 ⟨ns0, as0, cs0, rfl, hos0, hb3⟩
  have kb0_3 := cell_keep hb3 kb0_2
  have Op0_3 := Lib.hid (Op0_2.out.keep hb3)
  have Os0_3 : Hid (OwnGridU 2 31 w3 (w2.heap.size) w3.heap.size (.slice as0 ns0 cs0) E0) := (by have hq := hos0; rw [← HEQ0.out] at hq; exact (hq.mono (by first | exact Nat.le_refl _ | simp)).under)
  have hz3 : w2.heap.size ≤ w3.heap.size := hb3.size
  have HB3 : Hid (Below w.heap.size w w3) := HB2.out.trans (hb3.mono (by first | omega | (simp; omega)))
  clear kb0_2 Op0_2 HB2 hb3
  go_wp2_with fail
  refine (toGraph_any _ _ _ (h0.keep HB3.out) hsm0).mono ?_
  rintro e w4 ⟨nx0, ax0, cx0, rfl, hox0, hb4⟩
  have kb0_4 := cell_keep hb4 kb0_3
  have Os0_4 := Lib.hid (Os0_3.out.keep hb4)
  have Ox0_4 : Hid (OwnGridU 2 31 w4 (w3.heap.size) w4.heap.size (.slice ax0 nx0 cx0) L0) := (hox0.mono (by first | exact Nat.le_refl _ | simp)).under
  have hz4 : w3.heap.size ≤ w4.heap.size := hb4.size
  have HB4 : Hid (Below w.heap.size w w4) := HB3.out.trans (hb4.mono (by first | omega | (simp; omega)))
  clear kb0_3 Os0_3 HB3 hb4
  have ha5 : Below w4.heap.size w4 (w4.alloc (.cells #[.slice ax0 nx0 cx0] 29)) := ((Below.refl _ _).alloc (Nat.le_refl _) _)
  have kb0_4a := cell_keep ha5 kb0_4
  go_wp2_with fail
  clear kb0_4a
  refine (implCliquesOf_any _ _ _ (Ox0_4.out.read.keep ha5)).mono ?_
  rintro e w5 ⟨ng0, ag0, cg0, rfl, hog0, hb5⟩
  have kb0_5 := cell_keep hb5 (cell_keep ha5 kb0_4)
  have kx0_5 : w5.cell? ⟨w4.heap.size, 0, none⟩ = some (.slice ax0 nx0 cx0) := by rw [hb5.cell (by first | (simp; done) | (simp; omega))]; go_simp
  have Os0_5 := Lib.hid ((Os0_4.out.keep ha5).keep hb5)
  have Ox0_5 := Lib.hid ((Ox0_4.out.keep ha5).keep hb5)
  have Og0_5 : Hid (OwnGridU 2 31 w5 (w4.heap.size + 1) w5.heap.size (.slice ag0 ng0 cg0) E0) := (by have hq := hog0; rw [← HEQ0.out] at hq; exact (hq.mono (by first | exact Nat.le_refl _ | simp)).under)
  have hz5 : w4.heap.size + 1 ≤ w5.heap.size := by have hq := hb5.size; simpa using hq
  have HB5 : Hid (Below w.heap.size w w5) := (HB4.out.trans (ha5.mono HB4.out.size)).trans (hb5.mono (by first | omega | (simp; omega)))
  clear kb0_4 Os0_4 Ox0_4 HB4 ha5 hb5
  go_wp2_with fail
  refine (eqInt64SS_b _ _ _ _ _ Og0_5.out.read Os0_5.out.read).mono ?_
  rintro e w6 ⟨rfl, hb6⟩
  rw [decide_eq_true rfl]
  have kb0_6 := cell_keep hb6 kb0_5
  have kx0_6 := cell_keep hb6 kx0_5
  have Os0_6 := Lib.hid (Os0_5.out.keep hb6)
  have Ox0_6 := Lib.hid (Ox0_5.out.keep hb6)
  have Og0_6 := Lib.hid (Og0_5.out.keep hb6)
  have hz6 : w5.heap.size ≤ w6.heap.size := hb6.size
  have HB6 : Hid (Below w.heap.size w w6) := HB5.out.trans (hb6.mono (by first | omega | (simp; omega)))
  clear kb0_5 kx0_5 Os0_5 Ox0_5 Og0_5 HB5 hb6
  go_wp2
  go_region_held3 (fun wx => wx.cell? ⟨w.heap.size, 0, none⟩ = some (.slice a0 L0.length c0) ∧ wx.cell? ⟨w4.heap.size, 0, none⟩ = some (.slice ax0 nx0 cx0)) (first | exact ⟨kb0_6, kx0_6⟩ | exact ⟨kb0_7r1, kx0_7r1⟩ | exact ⟨kb0_7r2, kx0_7r2⟩)
    (first | (go_at_call 37; refine (toGraph_any _ _ _ ((h0.keep HB6.out).keep (Below.refl _ _).drew) hsm0).mono ?_; rintro e w7r1 ⟨ny0, ay0, cy0, rfl, hoy0, hb7r1⟩; have kb0_7r1 := cell_keep hb7r1 (cell_keep (Below.refl _ _).drew kb0_6); have kx0_7r1 := cell_keep hb7r1 (cell_keep (Below.refl _ _).drew kx0_6); have Os0_7r1 := Lib.hid ((Os0_6.out.keep (Below.refl _ _).drew).keep hb7r1); have Ox0_7r1 := Lib.hid ((Ox0_6.out.keep (Below.refl _ _).drew).keep hb7r1); have Og0_7r1 := Lib.hid ((Og0_6.out.keep (Below.refl _ _).drew).keep hb7r1); have Oy0_7r1 : Hid (OwnGridU 2 31 w7r1 (w6.heap.size) w7r1.heap.size (.slice ay0 ny0 cy0) L0) := (hoy0.mono (by first | exact Nat.le_refl _ | simp)).under; have hz7r1 : w6.heap.size ≤ w7r1.heap.size := hb7r1.size; have HB7r1 : Hid (Below w.heap.size w w7r1) := HB6.out.drew.trans (hb7r1.mono HB6.out.size); clear hb7r1) | (go_at_call 39; refine (eqGraph_any _ _ _ _ _ Ox0_7r1.out.read Oy0_7r1.out.read).mono ?_; rintro e w7r2 ⟨rfl, hb7r2⟩; have kb0_7r2 := cell_keep hb7r2 kb0_7r1; have kx0_7r2 := cell_keep hb7r2 kx0_7r1; have Os0_7r2 := Lib.hid (Os0_7r1.out.keep hb7r2); have Ox0_7r2 := Lib.hid (Ox0_7r1.out.keep hb7r2); have Og0_7r2 := Lib.hid (Og0_7r1.out.keep hb7r2); have Oy0_7r2 := Lib.hid (Oy0_7r1.out.keep hb7r2); have hz7r2 : w7r1.heap.size ≤ w7r2.heap.size := hb7r2.size; have HB7r2 : Hid (Below w.heap.size w w7r2) := HB7r1.out.trans (hb7r2.mono HB7r1.out.size); clear hb7r2; rw [decide_eq_true rfl]))
  clear kb0_6 kx0_6 Os0_6 Ox0_6 Og0_6 HB6 kb0_7r1 kx0_7r1 Os0_7r1 Ox0_7r1 Og0_7r1 Oy0_7r1 HB7r1
  have hone : (0 : Int) ≤ 1 := by omega
  have htt0 := totTo_le hsm0.2 L0.length (Nat.le_refl _)
  have htu0 : 1048576 * L0.length ≤ 1048576 * 1048576 := by have := hsm0.1; omega
  go_wp2_with fail
  refine (markGraph_any _ _ (w3.heap.size) w4.heap.size _ _ Ox0_7r2.out (by omega) (by omega) hsm0).mono ?_
  rintro e w8 ⟨rfl, hogx0, hb8⟩
  have kb0_8 := cell_apart kb0_7r2 hb8 (by dsimp only; omega)
  have kx0_8 := cell_apart kx0_7r2 hb8 (by dsimp only; omega)
  have Os0_8 := Lib.hid (Os0_7r2.out.apart hb8 (by omega))
  have Og0_8 := Lib.hid (Og0_7r2.out.apart hb8 (by omega))
  have Ox0_8 : Hid (OwnGridU 2 31 w8 (w3.heap.size) w4.heap.size (.slice ax0 nx0 cx0) (marksG L0 (1))) := hogx0
  have hz8 : w7r2.heap.size ≤ w8.heap.size := (hb8.size)
  have HB8 : Hid (Below w.heap.size w w8) := HB7r2.out.trans ((hb8.below (by first | omega | (simp; omega))).mono (by first | omega | (simp; omega)))
  clear kb0_7r2 kx0_7r2 Os0_7r2 Og0_7r2 Ox0_7r2 HB7r2 hb8
  have hkpos : 0 ≤ 1 + (totTo L0 L0.length : Int) := by omega
  go_wp2_with fail
  refine (eqInt64SS_b _ _ _ _ _ Og0_8.out.read Os0_8.out.read).mono ?_
  rintro e w9 ⟨rfl, hb9⟩
  rw [decide_eq_true rfl]
  have kb0_9 := cell_keep hb9 kb0_8
  have kx0_9 := cell_keep hb9 kx0_8
  have Os0_9 := Lib.hid (Os0_8.out.keep hb9)
  have Og0_9 := Lib.hid (Og0_8.out.keep hb9)
  have Ox0_9 := Lib.hid (Ox0_8.out.keep hb9)
  have hz9 : w8.heap.size ≤ w9.heap.size := hb9.size
  have HB9 : Hid (Below w.heap.size w w9) := HB8.out.trans (hb9.mono (by first | omega | (simp; omega)))
  clear kb0_8 kx0_8 Os0_8 Og0_8 Ox0_8 HB8 hb9
  have hrt0 := totTo_le hsr0.2 E0.length (Nat.le_refl _)
  have hru0 : 1048576 * E0.length ≤ 1048576 * 1048576 := by have := hsr0.1; omega
  go_wp2_with fail
  refine (markInt64SS_any _ _ (w4.heap.size + 1) w5.heap.size _ _ Og0_9.out (by omega) (by omega) hsr0).mono ?_
  rintro e w10 ⟨rfl, hogg0, hb10⟩
  have kb0_10 := cell_apart kb0_9 hb10 (by dsimp only; omega)
  have kx0_10 := cell_apart kx0_9 hb10 (by dsimp only; omega)
  have Os0_10 := Lib.hid (Os0_9.out.apart hb10 (by omega))
  have Ox0_10 := Lib.hid (Ox0_9.out.apart hb10 (by omega))
  have Og0_10 : Hid (OwnGridU 2 31 w10 (w4.heap.size + 1) w5.heap.size (.slice ag0 ng0 cg0) (marksG E0 (1))) := hogg0
  have hz10 : w9.heap.size ≤ w10.heap.size := (hb10.size)
  have HB10 : Hid (Below w.heap.size w w10) := HB9.out.trans ((hb10.below (by first | omega | (simp; omega))).mono (by first | omega | (simp; omega)))
  clear kb0_9 kx0_9 Os0_9 Ox0_9 Og0_9 HB9 hb10
  have hmpos : 0 ≤ 1 + (totTo E0 E0.length : Int) := by omega
  have hmne : ((1 + (totTo E0 E0.length : Int)) != (1 + (totTo E0 E0.length : Int))) = false := by simp
  go_wp2_with fail
  refine (heldInt64SS_b _ E0 _ _ Og0_10.out.read (by omega) (by omega) hsr0).mono ?_
  rintro e w11 ⟨rfl, hb11⟩
  have kb0_11 := cell_keep hb11 kb0_10
  have kx0_11 := cell_keep hb11 kx0_10
  have Os0_11 := Lib.hid (Os0_10.out.keep hb11)
  have Ox0_11 := Lib.hid (Ox0_10.out.keep hb11)
  have Og0_11 := Lib.hid (Og0_10.out.keep hb11)
  have hz11 : w10.heap.size ≤ w11.heap.size := hb11.size
  have HB11 : Hid (Below w.heap.size w w11) := HB10.out.trans (hb11.mono (by first | omega | (simp; omega)))
  clear kb0_10 kx0_10 Os0_10 Ox0_10 Og0_10 HB10 hb11
  go_wp2_with fail
  refine (toGraph_any _ _ _ (h0.keep HB11.out) hsm0).mono ?_
  rintro e w12 ⟨nq0, aq0, cq0, rfl, hoq0, hb12⟩
  have kb0_12 := cell_keep hb12 kb0_11
  have kx0_12 := cell_keep hb12 kx0_11
  have Os0_12 := Lib.hid (Os0_11.out.keep hb12)
  have Ox0_12 := Lib.hid (Ox0_11.out.keep hb12)
  have Og0_12 := Lib.hid (Og0_11.out.keep hb12)
  have Oq0_12 : Hid (OwnGridU 2 31 w12 (w11.heap.size) w12.heap.size (.slice aq0 nq0 cq0) L0) := (hoq0.mono (by first | exact Nat.le_refl _ | simp)).under
  have hz12 : w11.heap.size ≤ w12.heap.size := hb12.size
  have HB12 : Hid (Below w.heap.size w w12) := HB11.out.trans (hb12.mono (by first | omega | (simp; omega)))
  clear kb0_11 kx0_11 Os0_11 Ox0_11 Og0_11 HB11 hb12
  go_wp2_with fail
  refine (implCliquesOf_any _ _ _ Oq0_12.out.read).mono ?_
  rintro e w13 ⟨nh0, ah0, ch0, rfl, hoh0, hb13⟩
  have kb0_13 := cell_keep hb13 kb0_12
  have kx0_13 := cell_keep hb13 kx0_12
  have Os0_13 := Lib.hid (Os0_12.out.keep hb13)
  have Ox0_13 := Lib.hid (Ox0_12.out.keep hb13)
  have Og0_13 := Lib.hid (Og0_12.out.keep hb13)
  have Oq0_13 := Lib.hid (Oq0_12.out.keep hb13)
  have Oh0_13 : Hid (OwnGridU 2 31 w13 (w12.heap.size) w13.heap.size (.slice ah0 nh0 ch0) E0) := (by have hq := hoh0; rw [← HEQ0.out] at hq; exact (hq.mono (by first | exact Nat.le_refl _ | simp)).under)
  have hz13 : w12.heap.size ≤ w13.heap.size := hb13.size
  have HB13 : Hid (Below w.heap.size w w13) := HB12.out.trans (hb13.mono (by first | omega | (simp; omega)))
  clear kb0_12 kx0_12 Os0_12 Ox0_12 Og0_12 Oq0_12 HB12 hb13
  go_wp2_with fail
  refine (eqInt64SS_b _ _ _ _ _ Oh0_13.out.read Os0_13.out.read).mono ?_
  rintro e w14 ⟨rfl, hb14⟩
  rw [decide_eq_true rfl]
  have kb0_14 := cell_keep hb14 kb0_13
  have kx0_14 := cell_keep hb14 kx0_13
  have Os0_14 := Lib.hid (Os0_13.out.keep hb14)
  have Ox0_14 := Lib.hid (Ox0_13.out.keep hb14)
  have Og0_14 := Lib.hid (Og0_13.out.keep hb14)
  have Oh0_14 := Lib.hid (Oh0_13.out.keep hb14)
  have hz14 : w13.heap.size ≤ w14.heap.size := hb14.size
  have HB14 : Hid (Below w.heap.size w w14) := HB13.out.trans (hb14.mono (by first | omega | (simp; omega)))
  clear kb0_13 kx0_13 Os0_13 Ox0_13 Og0_13 Oh0_13 HB13 hb14
  go_wp2_with fail
  refine (heldInt64SS_b _ E0 _ _ Og0_14.out.read (by omega) (by omega) hsr0).mono ?_
  rintro e w15 ⟨rfl, hb15⟩
  have kb0_15 := cell_keep hb15 kb0_14
  have kx0_15 := cell_keep hb15 kx0_14
  have Os0_15 := Lib.hid (Os0_14.out.keep hb15)
  have Ox0_15 := Lib.hid (Ox0_14.out.keep hb15)
  have Og0_15 := Lib.hid (Og0_14.out.keep hb15)
  have Oh0_15 := Lib.hid (Oh0_14.out.keep hb15)
  have hz15 : w14.heap.size ≤ w15.heap.size := hb15.size
  have HB15 : Hid (Below w.heap.size w w15) := HB14.out.trans (hb15.mono (by first | omega | (simp; omega)))
  clear kb0_14 kx0_14 Os0_14 Ox0_14 Og0_14 Oh0_14 HB14 hb15
  go_wp2
  go_ret
  exact ⟨rfl, HB15.out⟩

end Go.Proofs.Ytmfolclpddoplaa
