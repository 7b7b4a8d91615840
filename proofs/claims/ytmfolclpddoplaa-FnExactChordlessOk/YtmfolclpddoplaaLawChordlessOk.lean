/- The walk of the law FnExactChordlessOk, written by program (tools/lawgen.py) out of the contracts. -/
import Derived.Test.YtmfolclpddoplaaCH2
import Derived.Deep.RegionHeld3

namespace Go.Proofs.Ytmfolclpddoplaa
open Go.RowKit

set_option maxHeartbeats 1600000 in
theorem lawChordlessOk (v0 : Value) (L0 : List (List Int)) (v1 : Value) (L1 : List Int) (w : World) (h0 : GridAt w v0 L0) (h1 : RowAt w v1 L1) :
    Calls Try.prog 9 #[.agg #[v0], v1] w fun e w' => e = .returned (.bool true) ∧ Below w.heap.size w w' := by
  obtain ⟨a0, c0, rfl⟩ := h0.slice
  obtain ⟨a1, c1, rfl⟩ := h1.slice
  have hl1 := h1.len
  unfold maxLen at hl1
  by_cases hr1 : (1048576 : Int) < (L1.length : Int)
  · go_enter Try.func9, Try.ntmps9
    go_wp2
    go_ret
    exact ⟨rfl, (Below.refl _ _).alloc (by simp) _⟩
  have hr1' : L1.length ≤ 1048576 := by omega
  go_enter Try.func9, Try.ntmps9
  have R0_0 := Lib.hid h0
  have R1_0 := Lib.hid h1
  have ha1 : Below w.heap.size w (w.alloc (.cells #[.slice a0 L0.length c0] 44)) := ((Below.refl _ _).alloc (Nat.le_refl _) _)
  go_wp2_with fail
  refine (szGraph_any _ _ _ _ (R0_0.out.keep ha1) (by omega) (by omega)).mono ?_
  rintro e w1 ⟨rfl, hb1⟩
  have kb0_1 : w1.cell? ⟨w.heap.size, 0, none⟩ = some (.slice a0 L0.length c0) := by rw [hb1.cell (by first | (simp; done) | (simp; omega))]; go_simp
  have R0_1 := Lib.hid ((R0_0.out.keep ha1).keep hb1)
  have R1_1 := Lib.hid ((R1_0.out.keep ha1).keep hb1)
  have HB1 : Hid (Below w.heap.size w w1) := ha1.trans (hb1.mono (by first | (simp; done) | (simp; omega)))
  clear hb1 ha1 R0_0 R1_0
  by_cases hs0 : szGrid L0 1048576 < 0
  · go_wp2
    go_ret
    exact ⟨rfl, HB1.out⟩
  have hsm0 := (szGrid_small (L := L0) (left := 1048576) (by omega) (by omega)).1
  have hle0 := (szGrid_small (L := L0) (left := 1048576) (by omega) (by omega)).2
  go_wp2_with fail
  refine (toGraph_any _ _ _ R0_1.out hsm0).mono ?_
  rintro e w2 ⟨ns0, as0, cs0, rfl, hos0, hb2⟩
  have kb0_2 := cell_keep hb2 kb0_1
  have R0_2 := Lib.hid (R0_1.out.keep hb2)
  have R1_2 := Lib.hid (R1_1.out.keep hb2)
  have Rs0_2 := Lib.hid hos0.grid
  have HB2 : Hid (Below w.heap.size w w2) := HB1.out.trans (hb2.mono HB1.out.size)
  clear hb2 kb0_1 R0_1 R1_1 HB1
  go_wp2_with fail
  refine (toInt64S_gave _ _ _ R1_2.out hr1').mono ?_
  rintro e w3 ⟨ns1, as1, cs1, rfl, hos1, hb3⟩
  have kb0_3 := cell_keep hb3 kb0_2
  have R0_3 := Lib.hid (R0_2.out.keep hb3)
  have R1_3 := Lib.hid (R1_2.out.keep hb3)
  have Rs0_3 := Lib.hid (Rs0_2.out.keep hb3)
  have Rs1_3 := Lib.hid hos1.row
  have HB3 : Hid (Below w.heap.size w w3) := HB2.out.trans (hb3.mono HB2.out.size)
  clear hb3 kb0_2 R0_2 R1_2 Rs0_2 HB2
  go_wp2_with fail
  refine (specChordlessOk_any _ _ _ _ _ Rs0_3.out Rs1_3.out).mono ?_
  rintro e w4 ⟨rfl, hb4⟩
  have kb0_4 := cell_keep hb4 kb0_3
  have R0_4 := Lib.hid (R0_3.out.keep hb4)
  have R1_4 := Lib.hid (R1_3.out.keep hb4)
  have HB4 : Hid (Below w.heap.size w w4) := HB3.out.trans (hb4.mono HB3.out.size)
  clear hb4 kb0_3 R0_3 R1_3 HB3
  go_wp2_with fail
  refine (toGraph_any _ _ _ R0_4.out hsm0).mono ?_
  rintro e w5 ⟨nx0, ax0, cx0, rfl, hox0, hb5⟩
  have kb0_5 := cell_keep hb5 kb0_4
  have R0_5 := Lib.hid (R0_4.out.keep hb5)
  have R1_5 := Lib.hid (R1_4.out.keep hb5)
  have Rx0_5 := Lib.hid hox0.grid
  have HB5 : Hid (Below w.heap.size w w5) := HB4.out.trans (hb5.mono HB4.out.size)
  clear hb5 kb0_4 R0_4 R1_4 HB4
  have ha6 : Below w5.heap.size w5 (w5.alloc (.cells #[.slice ax0 nx0 cx0] 29)) := ((Below.refl _ _).alloc (Nat.le_refl _) _)
  have kb0_5a := cell_keep ha6 kb0_5
  go_wp2_with fail
  clear kb0_5a
  refine (toInt64S_gave _ _ _ (R1_5.out.keep ha6) hr1').mono ?_
  rintro e w6 ⟨nx1, ax1, cx1, rfl, hox1, hb6⟩
  have kb0_6 := cell_keep hb6 (cell_keep ha6 kb0_5)
  have kx0_6 : w6.cell? ⟨w5.heap.size, 0, none⟩ = some (.slice ax0 nx0 cx0) := by rw [hb6.cell (by first | (simp; done) | (simp; omega))]; go_simp
  have R0_6 := Lib.hid ((R0_5.out.keep ha6).keep hb6)
  have R1_6 := Lib.hid ((R1_5.out.keep ha6).keep hb6)
  have Rx0_6 := Lib.hid ((Rx0_5.out.keep ha6).keep hb6)
  have Rx1_6 := Lib.hid hox1.row
  have HB6 : Hid (Below w.heap.size w w6) := (HB5.out.trans (ha6.mono HB5.out.size)).trans (hb6.mono (by have := HB5.out.size; simp; omega))
  clear hb6 ha6 kb0_5 R0_5 R1_5 Rx0_5 HB5
  go_wp2_with fail
  refine (implChordlessOk_any _ _ _ _ _ Rx0_6.out Rx1_6.out).mono ?_
  rintro e w7 ⟨rfl, hb7⟩
  have kb0_7 := cell_keep hb7 kb0_6
  have kx0_7 := cell_keep hb7 kx0_6
  have R0_7 := Lib.hid (R0_6.out.keep hb7)
  have R1_7 := Lib.hid (R1_6.out.keep hb7)
  have Rx0_7 := Lib.hid (Rx0_6.out.keep hb7)
  have Rx1_7 := Lib.hid (Rx1_6.out.keep hb7)
  have HB7 : Hid (Below w.heap.size w w7) := HB6.out.trans (hb7.mono HB6.out.size)
  clear hb7 kb0_6 kx0_6 R0_6 R1_6 Rx0_6 Rx1_6 HB6
  go_wp2
  go_region_held3 (fun wx => wx.cell? ⟨w.heap.size, 0, none⟩ = some (.slice a0 L0.length c0) ∧ wx.cell? ⟨w5.heap.size, 0, none⟩ = some (.slice ax0 nx0 cx0)) (first | exact ⟨kb0_7, kx0_7⟩ | exact ⟨kb0_8r1, kx0_8r1⟩ | exact ⟨kb0_8r2, kx0_8r2⟩)
    (first | (go_at_call 37; refine (toGraph_any _ _ _ (R0_7.out.keep (Below.refl _ _).drew) hsm0).mono ?_; rintro e w8r1 ⟨ny0, ay0, cy0, rfl, hoy0, hb8r1⟩; have kb0_8r1 := cell_keep hb8r1 (cell_keep (Below.refl _ _).drew kb0_7); have kx0_8r1 := cell_keep hb8r1 (cell_keep (Below.refl _ _).drew kx0_7); have R0_8r1 := Lib.hid ((R0_7.out.keep (Below.refl _ _).drew).keep hb8r1); have R1_8r1 := Lib.hid ((R1_7.out.keep (Below.refl _ _).drew).keep hb8r1); have Rx0_8r1 := Lib.hid ((Rx0_7.out.keep (Below.refl _ _).drew).keep hb8r1); have Rx1_8r1 := Lib.hid ((Rx1_7.out.keep (Below.refl _ _).drew).keep hb8r1); have Ry0_8r1 := Lib.hid hoy0.grid; have HB8r1 : Hid (Below w.heap.size w w8r1) := HB7.out.drew.trans (hb8r1.mono HB7.out.size); clear hb8r1) | (go_at_call 39; refine (eqGraph_any _ _ _ _ _ Rx0_8r1.out Ry0_8r1.out).mono ?_; rintro e w8r2 ⟨rfl, hb8r2⟩; have kb0_8r2 := cell_keep hb8r2 kb0_8r1; have kx0_8r2 := cell_keep hb8r2 kx0_8r1; have R0_8r2 := Lib.hid (R0_8r1.out.keep hb8r2); have R1_8r2 := Lib.hid (R1_8r1.out.keep hb8r2); have Rx0_8r2 := Lib.hid (Rx0_8r1.out.keep hb8r2); have Rx1_8r2 := Lib.hid (Rx1_8r1.out.keep hb8r2); have Ry0_8r2 := Lib.hid (Ry0_8r1.out.keep hb8r2); have HB8r2 : Hid (Below w.heap.size w w8r2) := HB8r1.out.trans (hb8r2.mono HB8r1.out.size); clear hb8r2; rw [decide_eq_true rfl]))
  clear kb0_7 kx0_7 R0_7 R1_7 Rx0_7 Rx1_7 HB7 kb0_8r1 kx0_8r1 R0_8r1 R1_8r1 Rx0_8r1 Rx1_8r1 Ry0_8r1 HB8r1
  go_wp2_with fail
  refine (toInt64S_gave _ _ _ R1_8r2.out hr1').mono ?_
  rintro e w9 ⟨ny1, ay1, cy1, rfl, hoy1, hb9⟩
  have kb0_9 := cell_keep hb9 kb0_8r2
  have kx0_9 := cell_keep hb9 kx0_8r2
  have R0_9 := Lib.hid (R0_8r2.out.keep hb9)
  have R1_9 := Lib.hid (R1_8r2.out.keep hb9)
  have Rx0_9 := Lib.hid (Rx0_8r2.out.keep hb9)
  have Rx1_9 := Lib.hid (Rx1_8r2.out.keep hb9)
  have Ry1_9 := Lib.hid hoy1.row
  have HB9 : Hid (Below w.heap.size w w9) := HB8r2.out.trans (hb9.mono HB8r2.out.size)
  clear hb9 kb0_8r2 kx0_8r2 R0_8r2 R1_8r2 Rx0_8r2 Rx1_8r2 HB8r2
  go_wp2_with fail
  refine (eqInt64S_b _ _ _ _ _ Rx1_9.out Ry1_9.out).mono ?_
  rintro e w10 ⟨rfl, hb10⟩
  have kb0_10 := cell_keep hb10 kb0_9
  have kx0_10 := cell_keep hb10 kx0_9
  have R0_10 := Lib.hid (R0_9.out.keep hb10)
  have R1_10 := Lib.hid (R1_9.out.keep hb10)
  have Rx0_10 := Lib.hid (Rx0_9.out.keep hb10)
  have Rx1_10 := Lib.hid (Rx1_9.out.keep hb10)
  have HB10 : Hid (Below w.heap.size w w10) := HB9.out.trans (hb10.mono HB9.out.size)
  clear hb10 kb0_9 kx0_9 R0_9 R1_9 Rx0_9 Rx1_9 HB9
  rw [decide_eq_true rfl]
  go_wp2
  go_ret
  exact ⟨rfl, HB10.out⟩

end Go.Proofs.Ytmfolclpddoplaa
