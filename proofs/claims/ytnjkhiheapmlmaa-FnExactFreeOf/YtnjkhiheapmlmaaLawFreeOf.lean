/- The walk of the law FnExactFreeOf, written by program (tools/lawgen.py) out of the contracts. -/
import Derived.Test.YtnjkhiheapmlmaaQEP1
import Derived.Deep.RegionHeld3

namespace Go.Proofs.Ytnjkhiheapmlmaa
open Go.RowKit

set_option maxHeartbeats 1600000 in
theorem lawFreeOf (v0 : Value) (L0 : List (List Int)) (v1 : Value) (L1 : List (List Int)) (w : World) (h0 : GridAt w v0 L0) (h1 : GridAt w v1 L1) :
    Calls Try.prog 13 #[.agg #[v0], .agg #[v1]] w fun e w' => e = .returned (.bool true) ∧ Below w.heap.size w w' := by
  obtain ⟨a0, c0, rfl⟩ := h0.slice
  obtain ⟨a1, c1, rfl⟩ := h1.slice
  go_enter Try.func13, Try.ntmps13
  have R0_0 := Lib.hid h0
  have R1_0 := Lib.hid h1
  have ha1 : Below w.heap.size w ((w.alloc (.cells #[.slice a0 L0.length c0] 48)).alloc (.cells #[.slice a1 L1.length c1] 48)) := (((Below.refl _ _).alloc (Nat.le_refl _) _).alloc (by simp) _)
  go_wp2_with fail
  refine (szGraph_any _ _ _ _ (R0_0.out.keep ha1) (by omega) (by omega)).mono ?_
  rintro e w1 ⟨rfl, hb1⟩
  have kb0_1 : w1.cell? ⟨w.heap.size, 0, none⟩ = some (.slice a0 L0.length c0) := by rw [hb1.cell (by first | (simp; done) | (simp; omega))]; go_simp
  have kb1_1 : w1.cell? ⟨w.heap.size + 1, 0, none⟩ = some (.slice a1 L1.length c1) := by rw [hb1.cell (by first | (simp; done) | (simp; omega))]; go_simp
  have R0_1 := Lib.hid ((R0_0.out.keep ha1).keep hb1)
  have R1_1 := Lib.hid ((R1_0.out.keep ha1).keep hb1)
  have HB1 : Hid (Below w.heap.size w w1) := ha1.trans (hb1.mono (by first | (simp; done) | (simp; omega)))
  clear hb1 ha1 R0_0 R1_0
  by_cases hs0 : szGrid L0 1048576 < 0
  · go_wp2
    go_ret
    exact ⟨rfl, HB1.out⟩
  have hsm0 := (szGrid_small (L := L0) (left := 1048576) (by omega) (by omega)).1
  have hle0 := (szGrid_small (L := L0) (left := 1048576) (by omega) (by omega)).2
  go_wp2_with fail
  refine (szGraph_any _ _ _ _ R1_1.out (by omega) (by omega)).mono ?_
  rintro e w2 ⟨rfl, hb2⟩
  have kb0_2 := cell_keep hb2 kb0_1
  have kb1_2 := cell_keep hb2 kb1_1
  have R0_2 := Lib.hid (R0_1.out.keep hb2)
  have R1_2 := Lib.hid (R1_1.out.keep hb2)
  have HB2 : Hid (Below w.heap.size w w2) := HB1.out.trans (hb2.mono HB1.out.size)
  clear hb2 kb0_1 kb1_1 R0_1 R1_1 HB1
  by_cases hs1 : szGrid L1 (szGrid L0 1048576) < 0
  · go_wp2
    go_ret
    exact ⟨rfl, HB2.out⟩
  have hsm1 := (szGrid_small (L := L1) (left := (szGrid L0 1048576)) (by omega) (by omega)).1
  have hle1 := (szGrid_small (L := L1) (left := (szGrid L0 1048576)) (by omega) (by omega)).2
  go_wp2
  go_region_held3 (fun wx => wx.cell? ⟨w.heap.size, 0, none⟩ = some (.slice a0 L0.length c0) ∧ wx.cell? ⟨w.heap.size + 1, 0, none⟩ = some (.slice a1 L1.length c1)) (first | exact ⟨kb0_2, kb1_2⟩ | exact ⟨kb0_3r1, kb1_3r1⟩ | exact ⟨kb0_3r2, kb1_3r2⟩ | exact ⟨kb0_3r3, kb1_3r3⟩)
    (first | (go_at_call_of 44 (L0); refine (toGraph_any _ _ _ (R0_2.out.keep (Below.refl _ _).drew) hsm0).mono ?_; rintro e w3r1 ⟨ns0, as0, cs0, rfl, hos0, hb3r1⟩; have kb0_3r1 := cell_keep hb3r1 (cell_keep (Below.refl _ _).drew kb0_2); have kb1_3r1 := cell_keep hb3r1 (cell_keep (Below.refl _ _).drew kb1_2); have R0_3r1 := Lib.hid ((R0_2.out.keep (Below.refl _ _).drew).keep hb3r1); have R1_3r1 := Lib.hid ((R1_2.out.keep (Below.refl _ _).drew).keep hb3r1); have Rs0_3r1 := Lib.hid hos0.grid; have HB3r1 : Hid (Below w.heap.size w w3r1) := HB2.out.drew.trans (hb3r1.mono HB2.out.size); clear hb3r1) | (go_at_call_of 44 (L1); refine (toGraph_any _ _ _ R1_3r1.out hsm1).mono ?_; rintro e w3r2 ⟨ns1, as1, cs1, rfl, hos1, hb3r2⟩; have kb0_3r2 := cell_keep hb3r2 kb0_3r1; have kb1_3r2 := cell_keep hb3r2 kb1_3r1; have R0_3r2 := Lib.hid (R0_3r1.out.keep hb3r2); have R1_3r2 := Lib.hid (R1_3r1.out.keep hb3r2); have Rs0_3r2 := Lib.hid (Rs0_3r1.out.keep hb3r2); have Rs1_3r2 := Lib.hid hos1.grid; have HB3r2 : Hid (Below w.heap.size w w3r2) := HB3r1.out.trans (hb3r2.mono HB3r1.out.size); clear hb3r2) | (go_at_call 42; refine (specFreeOf_any _ _ _ _ _ Rs0_3r2.out Rs1_3r2.out).mono ?_; rintro e w3r3 ⟨rfl, hb3r3⟩; have kb0_3r3 := cell_keep hb3r3 kb0_3r2; have kb1_3r3 := cell_keep hb3r3 kb1_3r2; have R0_3r3 := Lib.hid (R0_3r2.out.keep hb3r3); have R1_3r3 := Lib.hid (R1_3r2.out.keep hb3r3); have Rs0_3r3 := Lib.hid (Rs0_3r2.out.keep hb3r3); have Rs1_3r3 := Lib.hid (Rs1_3r2.out.keep hb3r3); have HB3r3 : Hid (Below w.heap.size w w3r3) := HB3r2.out.trans (hb3r3.mono HB3r2.out.size); clear hb3r3))
  clear kb0_2 kb1_2 R0_2 R1_2 HB2 kb0_3r1 kb1_3r1 R0_3r1 R1_3r1 Rs0_3r1 HB3r1 kb0_3r2 kb1_3r2 R0_3r2 R1_3r2 Rs0_3r2 Rs1_3r2 HB3r2
  go_wp2_with fail
  refine (toGraph_any _ _ _ R0_3r3.out hsm0).mono ?_
  rintro e w4 ⟨nx0, ax0, cx0, rfl, hox0, hb4⟩
  have kb0_4 := cell_keep hb4 kb0_3r3
  have kb1_4 := cell_keep hb4 kb1_3r3
  have R0_4 := Lib.hid (R0_3r3.out.keep hb4)
  have R1_4 := Lib.hid (R1_3r3.out.keep hb4)
  have Rx0_4 := Lib.hid hox0.grid
  have HB4 : Hid (Below w.heap.size w w4) := HB3r3.out.trans (hb4.mono HB3r3.out.size)
  clear hb4 kb0_3r3 kb1_3r3 R0_3r3 R1_3r3 HB3r3
  have ha5 : Below w4.heap.size w4 (w4.alloc (.cells #[.slice ax0 nx0 cx0] 29)) := ((Below.refl _ _).alloc (Nat.le_refl _) _)
  have kb0_4a := cell_keep ha5 kb0_4
  have kb1_4a := cell_keep ha5 kb1_4
  go_wp2_with fail
  clear kb0_4a kb1_4a
  refine (toGraph_any _ _ _ (R1_4.out.keep ha5) hsm1).mono ?_
  rintro e w5 ⟨nx1, ax1, cx1, rfl, hox1, hb5⟩
  have kb0_5 := cell_keep hb5 (cell_keep ha5 kb0_4)
  have kb1_5 := cell_keep hb5 (cell_keep ha5 kb1_4)
  have kx0_5 : w5.cell? ⟨w4.heap.size, 0, none⟩ = some (.slice ax0 nx0 cx0) := by rw [hb5.cell (by first | (simp; done) | (simp; omega))]; go_simp
  have R0_5 := Lib.hid ((R0_4.out.keep ha5).keep hb5)
  have R1_5 := Lib.hid ((R1_4.out.keep ha5).keep hb5)
  have Rx0_5 := Lib.hid ((Rx0_4.out.keep ha5).keep hb5)
  have Rx1_5 := Lib.hid hox1.grid
  have HB5 : Hid (Below w.heap.size w w5) := (HB4.out.trans (ha5.mono HB4.out.size)).trans (hb5.mono (by have := HB4.out.size; simp; omega))
  clear hb5 ha5 kb0_4 kb1_4 R0_4 R1_4 Rx0_4 HB4
  have ha6 : Below w5.heap.size w5 (w5.alloc (.cells #[.slice ax1 nx1 cx1] 29)) := ((Below.refl _ _).alloc (Nat.le_refl _) _)
  have kb0_5a := cell_keep ha6 kb0_5
  have kb1_5a := cell_keep ha6 kb1_5
  have kx0_5a := cell_keep ha6 kx0_5
  go_wp2_with fail
  clear kb0_5a kb1_5a kx0_5a
  refine (implFreeOf_any _ _ _ _ _ (Rx0_5.out.keep ha6) (Rx1_5.out.keep ha6)).mono ?_
  rintro e w6 ⟨rfl, hb6⟩
  have kb0_6 := cell_keep hb6 (cell_keep ha6 kb0_5)
  have kb1_6 := cell_keep hb6 (cell_keep ha6 kb1_5)
  have kx0_6 := cell_keep hb6 (cell_keep ha6 kx0_5)
  have kx1_6 : w6.cell? ⟨w5.heap.size, 0, none⟩ = some (.slice ax1 nx1 cx1) := by rw [hb6.cell (by first | (simp; done) | (simp; omega))]; go_simp
  have R0_6 := Lib.hid ((R0_5.out.keep ha6).keep hb6)
  have R1_6 := Lib.hid ((R1_5.out.keep ha6).keep hb6)
  have Rx0_6 := Lib.hid ((Rx0_5.out.keep ha6).keep hb6)
  have Rx1_6 := Lib.hid ((Rx1_5.out.keep ha6).keep hb6)
  have HB6 : Hid (Below w.heap.size w w6) := (HB5.out.trans (ha6.mono HB5.out.size)).trans (hb6.mono (by have := HB5.out.size; simp; omega))
  clear hb6 ha6 kb0_5 kb1_5 kx0_5 R0_5 R1_5 Rx0_5 Rx1_5 HB5
  go_wp2
  go_region_held3 (fun wx => wx.cell? ⟨w.heap.size, 0, none⟩ = some (.slice a0 L0.length c0) ∧ wx.cell? ⟨w4.heap.size, 0, none⟩ = some (.slice ax0 nx0 cx0)) (first | exact ⟨kb0_6, kx0_6⟩ | exact ⟨kb0_7r1, kx0_7r1⟩ | exact ⟨kb0_7r2, kx0_7r2⟩)
    (first | (go_at_call 44; refine (toGraph_any _ _ _ (R0_6.out.keep (Below.refl _ _).drew) hsm0).mono ?_; rintro e w7r1 ⟨ny0, ay0, cy0, rfl, hoy0, hb7r1⟩; have kb0_7r1 := cell_keep hb7r1 (cell_keep (Below.refl _ _).drew kb0_6); have kb1_7r1 := cell_keep hb7r1 (cell_keep (Below.refl _ _).drew kb1_6); have kx0_7r1 := cell_keep hb7r1 (cell_keep (Below.refl _ _).drew kx0_6); have kx1_7r1 := cell_keep hb7r1 (cell_keep (Below.refl _ _).drew kx1_6); have R0_7r1 := Lib.hid ((R0_6.out.keep (Below.refl _ _).drew).keep hb7r1); have R1_7r1 := Lib.hid ((R1_6.out.keep (Below.refl _ _).drew).keep hb7r1); have Rx0_7r1 := Lib.hid ((Rx0_6.out.keep (Below.refl _ _).drew).keep hb7r1); have Rx1_7r1 := Lib.hid ((Rx1_6.out.keep (Below.refl _ _).drew).keep hb7r1); have Ry0_7r1 := Lib.hid hoy0.grid; have HB7r1 : Hid (Below w.heap.size w w7r1) := HB6.out.drew.trans (hb7r1.mono HB6.out.size); clear hb7r1) | (go_at_call 46; refine (eqGraph_any _ _ _ _ _ Rx0_7r1.out Ry0_7r1.out).mono ?_; rintro e w7r2 ⟨rfl, hb7r2⟩; have kb0_7r2 := cell_keep hb7r2 kb0_7r1; have kb1_7r2 := cell_keep hb7r2 kb1_7r1; have kx0_7r2 := cell_keep hb7r2 kx0_7r1; have kx1_7r2 := cell_keep hb7r2 kx1_7r1; have R0_7r2 := Lib.hid (R0_7r1.out.keep hb7r2); have R1_7r2 := Lib.hid (R1_7r1.out.keep hb7r2); have Rx0_7r2 := Lib.hid (Rx0_7r1.out.keep hb7r2); have Rx1_7r2 := Lib.hid (Rx1_7r1.out.keep hb7r2); have Ry0_7r2 := Lib.hid (Ry0_7r1.out.keep hb7r2); have HB7r2 : Hid (Below w.heap.size w w7r2) := HB7r1.out.trans (hb7r2.mono HB7r1.out.size); clear hb7r2; rw [decide_eq_true rfl]))
  clear kb0_6 kb1_6 kx0_6 kx1_6 R0_6 R1_6 Rx0_6 Rx1_6 HB6 kb0_7r1 kb1_7r1 kx0_7r1 kx1_7r1 R0_7r1 R1_7r1 Rx0_7r1 Rx1_7r1 Ry0_7r1 HB7r1
  go_wp2
  go_region_held3 (fun wx => wx.cell? ⟨w.heap.size + 1, 0, none⟩ = some (.slice a1 L1.length c1) ∧ wx.cell? ⟨w5.heap.size, 0, none⟩ = some (.slice ax1 nx1 cx1)) (first | exact ⟨kb1_7r2, kx1_7r2⟩ | exact ⟨kb1_8r1, kx1_8r1⟩ | exact ⟨kb1_8r2, kx1_8r2⟩)
    (first | (go_at_call 44; refine (toGraph_any _ _ _ (R1_7r2.out.keep (Below.refl _ _).drew) hsm1).mono ?_; rintro e w8r1 ⟨ny1, ay1, cy1, rfl, hoy1, hb8r1⟩; have kb0_8r1 := cell_keep hb8r1 (cell_keep (Below.refl _ _).drew kb0_7r2); have kb1_8r1 := cell_keep hb8r1 (cell_keep (Below.refl _ _).drew kb1_7r2); have kx0_8r1 := cell_keep hb8r1 (cell_keep (Below.refl _ _).drew kx0_7r2); have kx1_8r1 := cell_keep hb8r1 (cell_keep (Below.refl _ _).drew kx1_7r2); have R0_8r1 := Lib.hid ((R0_7r2.out.keep (Below.refl _ _).drew).keep hb8r1); have R1_8r1 := Lib.hid ((R1_7r2.out.keep (Below.refl _ _).drew).keep hb8r1); have Rx0_8r1 := Lib.hid ((Rx0_7r2.out.keep (Below.refl _ _).drew).keep hb8r1); have Rx1_8r1 := Lib.hid ((Rx1_7r2.out.keep (Below.refl _ _).drew).keep hb8r1); have Ry1_8r1 := Lib.hid hoy1.grid; have HB8r1 : Hid (Below w.heap.size w w8r1) := HB7r2.out.drew.trans (hb8r1.mono HB7r2.out.size); clear hb8r1) | (go_at_call 46; refine (eqGraph_any _ _ _ _ _ Rx1_8r1.out Ry1_8r1.out).mono ?_; rintro e w8r2 ⟨rfl, hb8r2⟩; have kb0_8r2 := cell_keep hb8r2 kb0_8r1; have kb1_8r2 := cell_keep hb8r2 kb1_8r1; have kx0_8r2 := cell_keep hb8r2 kx0_8r1; have kx1_8r2 := cell_keep hb8r2 kx1_8r1; have R0_8r2 := Lib.hid (R0_8r1.out.keep hb8r2); have R1_8r2 := Lib.hid (R1_8r1.out.keep hb8r2); have Rx0_8r2 := Lib.hid (Rx0_8r1.out.keep hb8r2); have Rx1_8r2 := Lib.hid (Rx1_8r1.out.keep hb8r2); have Ry1_8r2 := Lib.hid (Ry1_8r1.out.keep hb8r2); have HB8r2 : Hid (Below w.heap.size w w8r2) := HB8r1.out.trans (hb8r2.mono HB8r1.out.size); clear hb8r2; rw [decide_eq_true rfl]))
  clear kb0_7r2 kb1_7r2 kx0_7r2 kx1_7r2 R0_7r2 R1_7r2 Rx0_7r2 Rx1_7r2 HB7r2 kb0_8r1 kb1_8r1 kx0_8r1 kx1_8r1 R0_8r1 R1_8r1 Rx0_8r1 Rx1_8r1 Ry1_8r1 HB8r1
  go_wp2
  go_ret
  exact ⟨rfl, HB8r2.out⟩

end Go.Proofs.Ytnjkhiheapmlmaa
