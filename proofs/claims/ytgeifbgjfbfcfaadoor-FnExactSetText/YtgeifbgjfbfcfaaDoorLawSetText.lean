/- The walk of the law FnExactSetText, written by program (tools/lawgen.py) out of the contracts. -/
import Derived.Test.YtgeifbgjfbfcfaaDoorQST1
import Derived.Deep.RegionHeld3

namespace Go.Proofs.YtgeifbgjfbfcfaaDoor
open Go.RowKit

set_option maxHeartbeats 1600000 in
theorem lawSetText (v0 : Value) (L0 : List Int) (w : World) (h0 : RowAt w v0 L0) :
    Calls Tryd.prog 5 #[v0] w fun e w' => e = .returned (.bool true) ∧ Below w.heap.size w w' := by
  obtain ⟨a0, c0, rfl⟩ := h0.slice
  have hl0 := h0.len
  unfold maxLen at hl0
  by_cases hr0 : (1048576 : Int) < (L0.length : Int)
  · go_enter Tryd.func5, Tryd.ntmps5
    go_wp2
    go_ret
    exact ⟨rfl, (Below.refl _ _)⟩
  have hr0' : L0.length ≤ 1048576 := by omega
  go_enter Tryd.func5, Tryd.ntmps5
  have R0_0 := Lib.hid h0
  go_wp2_with fail
  refine (toInt64S_gave _ _ _ R0_0.out hr0').mono ?_
  rintro e w1 ⟨ns0, as0, cs0, rfl, hos0, hb1⟩
  have R0_1 := Lib.hid (R0_0.out.keep hb1)
  have Rs0_1 := Lib.hid hos0.row
  have HB1 : Hid (Below w.heap.size w w1) := hb1
  clear hb1 R0_0
  go_wp2_with fail
  refine (specSetText_any _ _ _ Rs0_1.out).mono ?_
  rintro e w2 ⟨rfl, hb2⟩
  have R0_2 := Lib.hid (R0_1.out.keep hb2)
  have HB2 : Hid (Below w.heap.size w w2) := HB1.out.trans (hb2.mono HB1.out.size)
  clear hb2 R0_1 HB1
  go_wp2_with fail
  refine (toInt64S_gave _ _ _ R0_2.out hr0').mono ?_
  rintro e w3 ⟨nx0, ax0, cx0, rfl, hox0, hb3⟩
  have R0_3 := Lib.hid (R0_2.out.keep hb3)
  have Rx0_3 := Lib.hid hox0.row
  have HB3 : Hid (Below w.heap.size w w3) := HB2.out.trans (hb3.mono HB2.out.size)
  clear hb3 R0_2 HB2
  go_wp2_with fail
  refine (implSetText_any _ _ _ Rx0_3.out).mono ?_
  rintro e w4 ⟨rfl, hb4⟩
  have R0_4 := Lib.hid (R0_3.out.keep hb4)
  have Rx0_4 := Lib.hid (Rx0_3.out.keep hb4)
  have HB4 : Hid (Below w.heap.size w w4) := HB3.out.trans (hb4.mono HB3.out.size)
  clear hb4 R0_3 Rx0_3 HB3
  go_wp2_with fail
  refine (toInt64S_gave _ _ _ R0_4.out hr0').mono ?_
  rintro e w5 ⟨ny0, ay0, cy0, rfl, hoy0, hb5⟩
  have R0_5 := Lib.hid (R0_4.out.keep hb5)
  have Rx0_5 := Lib.hid (Rx0_4.out.keep hb5)
  have Ry0_5 := Lib.hid hoy0.row
  have HB5 : Hid (Below w.heap.size w w5) := HB4.out.trans (hb5.mono HB4.out.size)
  clear hb5 R0_4 Rx0_4 HB4
  go_wp2_with fail
  refine (eqInt64S_b _ _ _ _ _ Rx0_5.out Ry0_5.out).mono ?_
  rintro e w6 ⟨rfl, hb6⟩
  have R0_6 := Lib.hid (R0_5.out.keep hb6)
  have Rx0_6 := Lib.hid (Rx0_5.out.keep hb6)
  have HB6 : Hid (Below w.heap.size w w6) := HB5.out.trans (hb6.mono HB5.out.size)
  clear hb6 R0_5 Rx0_5 HB5
  rw [decide_eq_true rfl]
  go_wp2
  go_ret
  exact ⟨rfl, HB6.out⟩

end Go.Proofs.YtgeifbgjfbfcfaaDoor
