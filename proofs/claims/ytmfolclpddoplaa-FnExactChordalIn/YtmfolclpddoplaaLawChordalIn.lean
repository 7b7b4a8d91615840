/- The walk of the law FnExactChordalIn, written by program (tools/lawgen.py) out of the contracts. -/
import Derived.Test.YtmfolclpddoplaaCI1
import Derived.Deep.RegionHeld3

namespace Go.Proofs.Ytmfolclpddoplaa
open Go.RowKit

set_option maxHeartbeats 1600000 in
theorem lawChordalIn (v0 : Value) (L0 : List (List Int)) (w : World) (h0 : GridAt w v0 L0) :
    Calls Try.prog 7 #[.agg #[v0]] w fun e w' => e = .returned (.bool true) ∧ Below w.heap.size w w' := by
  obtain ⟨a0, c0, rfl⟩ := h0.slice
  go_enter Try.func7, Try.ntmps7
  have R0_0 := Lib.hid h0
  have ha1 : Below w.heap.size w (w.alloc (.cells #[.slice a0 L0.length c0] 44)) := ((Below.refl _ _).alloc (Nat.le_refl _) _)
  go_wp2_with fail
  refine (szGraph_any _ _ _ _ (R0_0.out.keep ha1) (by omega) (by omega)).mono ?_
  rintro e w1 ⟨rfl, hb1⟩
  have kb0_1 : w1.cell? ⟨w.heap.size, 0, none⟩ = some (.slice a0 L0.length c0) := by rw [hb1.cell (by first | (simp; done) | (simp; omega))]; go_simp
  have R0_1 := Lib.hid ((R0_0.out.keep ha1).keep hb1)
  have HB1 : Hid (Below w.heap.size w w1) := ha1.trans (hb1.mono (by first | (simp; done) | (simp; omega)))
  clear hb1 ha1 R0_0
  by_cases hs0 : szGrid L0 1048576 < 0
  · go_wp2
    go_ret
    exact ⟨rfl, HB1.out⟩
  have hsm0 := (szGrid_small (L := L0) (left := 1048576) (by omega) (by omega)).1
  have hle0 := (szGrid_small (L := L0) (left := 1048576) (by omega) (by omega)).2
  go_wp2_with fail
  refine (toGraph_any _ _ _ R0_1.out hsm0).mono ?_
  rintro e w2 ⟨ns0, as0, cs0, rfl, hos0, hb2⟩
  have kb0_2 := cell_keep hb2 kb0_1
  have R0_2 := Lib.hid (R0_1.out.keep hb2)
  have Rs0_2 := Lib.hid hos0.grid
  have HB2 : Hid (Below w.heap.size w w2) := HB1.out.trans (hb2.mono HB1.out.size)
  clear hb2 kb0_1 R0_1 HB1
  go_wp2_with fail
  refine (specChordalIn_any _ _ _ Rs0_2.out).mono ?_
  rintro e w3 ⟨rfl, hb3⟩
  have kb0_3 := cell_keep hb3 kb0_2
  have R0_3 := Lib.hid (R0_2.out.keep hb3)
  have HB3 : Hid (Below w.heap.size w w3) := HB2.out.trans (hb3.mono HB2.out.size)
  clear hb3 kb0_2 R0_2 HB2
  go_wp2_with fail
  refine (toGraph_any _ _ _ R0_3.out hsm0).mono ?_
  rintro e w4 ⟨nx0, ax0, cx0, rfl, hox0, hb4⟩
  have kb0_4 := cell_keep hb4 kb0_3
  have R0_4 := Lib.hid (R0_3.out.keep hb4)
  have Rx0_4 := Lib.hid hox0.grid
  have HB4 : Hid (Below w.heap.size w w4) := HB3.out.trans (hb4.mono HB3.out.size)
  clear hb4 kb0_3 R0_3 HB3
  have ha5 : Below w4.heap.size w4 (w4.alloc (.cells #[.slice ax0 nx0 cx0] 29)) := ((Below.refl _ _).alloc (Nat.le_refl _) _)
  have kb0_4a := cell_keep ha5 kb0_4
  go_wp2_with fail
  clear kb0_4a
  refine (implChordalIn_any _ _ _ (Rx0_4.out.keep ha5)).mono ?_
  rintro e w5 ⟨rfl, hb5⟩
  have kb0_5 := cell_keep hb5 (cell_keep ha5 kb0_4)
  have kx0_5 : w5.cell? ⟨w4.heap.size, 0, none⟩ = some (.slice ax0 nx0 cx0) := by rw [hb5.cell (by first | (simp; done) | (simp; omega))]; go_simp
  have R0_5 := Lib.hid ((R0_4.out.keep ha5).keep hb5)
  have Rx0_5 := Lib.hid ((Rx0_4.out.keep ha5).keep hb5)
  have HB5 : Hid (Below w.heap.size w w5) := (HB4.out.trans (ha5.mono HB4.out.size)).trans (hb5.mono (by have := HB4.out.size; simp; omega))
  clear hb5 ha5 kb0_4 R0_4 Rx0_4 HB4
  go_wp2
  go_region_held3 (fun wx => wx.cell? ⟨w.heap.size, 0, none⟩ = some (.slice a0 L0.length c0) ∧ wx.cell? ⟨w4.heap.size, 0, none⟩ = some (.slice ax0 nx0 cx0)) (first | exact ⟨kb0_5, kx0_5⟩ | exact ⟨kb0_6r1, kx0_6r1⟩ | exact ⟨kb0_6r2, kx0_6r2⟩)
    (first | (go_at_call 37; refine (toGraph_any _ _ _ (R0_5.out.keep (Below.refl _ _).drew) hsm0).mono ?_; rintro e w6r1 ⟨ny0, ay0, cy0, rfl, hoy0, hb6r1⟩; have kb0_6r1 := cell_keep hb6r1 (cell_keep (Below.refl _ _).drew kb0_5); have kx0_6r1 := cell_keep hb6r1 (cell_keep (Below.refl _ _).drew kx0_5); have R0_6r1 := Lib.hid ((R0_5.out.keep (Below.refl _ _).drew).keep hb6r1); have Rx0_6r1 := Lib.hid ((Rx0_5.out.keep (Below.refl _ _).drew).keep hb6r1); have Ry0_6r1 := Lib.hid hoy0.grid; have HB6r1 : Hid (Below w.heap.size w w6r1) := HB5.out.drew.trans (hb6r1.mono HB5.out.size); clear hb6r1) | (go_at_call 39; refine (eqGraph_any _ _ _ _ _ Rx0_6r1.out Ry0_6r1.out).mono ?_; rintro e w6r2 ⟨rfl, hb6r2⟩; have kb0_6r2 := cell_keep hb6r2 kb0_6r1; have kx0_6r2 := cell_keep hb6r2 kx0_6r1; have R0_6r2 := Lib.hid (R0_6r1.out.keep hb6r2); have Rx0_6r2 := Lib.hid (Rx0_6r1.out.keep hb6r2); have Ry0_6r2 := Lib.hid (Ry0_6r1.out.keep hb6r2); have HB6r2 : Hid (Below w.heap.size w w6r2) := HB6r1.out.trans (hb6r2.mono HB6r1.out.size); clear hb6r2; rw [decide_eq_true rfl]))
  clear kb0_5 kx0_5 R0_5 Rx0_5 HB5 kb0_6r1 kx0_6r1 R0_6r1 Rx0_6r1 Ry0_6r1 HB6r1
  go_wp2
  go_ret
  exact ⟨rfl, HB6r2.out⟩

end Go.Proofs.Ytmfolclpddoplaa
