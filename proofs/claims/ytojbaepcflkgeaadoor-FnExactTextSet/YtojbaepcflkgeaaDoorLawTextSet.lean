/- The walk of the law FnExactTextSet, written by program (tools/lawgen2.py) out of the contracts. -/
import Derived.Test.YtojbaepcflkgeaaDoorQMark
import Derived.Test.YtojbaepcflkgeaaDoorQTS6
import Derived.Deep.RegionHeld3

namespace Go.Proofs.YtojbaepcflkgeaaDoor
open Go.RowKit

set_option maxHeartbeats 4000000 in
set_option maxRecDepth 100000 in
theorem lawTextSet (x0 : List UInt8) (w : World) (hx0 : x0.length ≤ 9223372036854775807) (hT : VarsAt w) :
    Calls Tryd.prog 3 #[.string (bsL x0)] w fun e w' => e = .returned (.bool true) ∧ Below w.heap.size w w' := by
  have hbz0 := bsL_size x0
  by_cases hr0 : (1048576 : Int) < (x0.length : Int)
  · go_enter Tryd.func3, Tryd.ntmps3
    go_wp2
    go_ret
    exact ⟨rfl, Below.refl _ _⟩
  have hr0' : x0.length ≤ 1048576 := by omega
  have hsr0 := tsL_small x0
  obtain ⟨E0, hE0⟩ : ∃ x, x = tsL x0 := ⟨_, rfl⟩
  rw [← hE0] at hsr0
  have HEQ0 := Lib.hid hE0
  clear hE0
  obtain ⟨E1, hE1⟩ : ∃ x, x = tsB x0 := ⟨_, rfl⟩
  have HEQ1 := Lib.hid hE1
  clear hE1
  go_enter Tryd.func3, Tryd.ntmps3
  go_wp2_with fail
  refine (specTextSet_any _ _ hr0').mono ?_
  rintro e w1 ⟨ns0, as0, cs0, rfl, hos0, hb1⟩
  rw [← HEQ1.out]
  have Os0_1 : Hid (OwnRowU 2 w1 (w.heap.size) w1.heap.size (.slice as0 ns0 cs0) E0) := (by have hq := hos0; rw [← HEQ0.out] at hq; exact (hq.mono (by first | exact Nat.le_refl _ | simp)).under)
  have hz1 : w.heap.size ≤ w1.heap.size := hb1.size
  have HB1 : Hid (Below w.heap.size w w1) := hb1
  clear hb1
  go_wp2_with fail
  refine (implTextSet_any _ _ hr0' (hT.keep HB1.out)).mono ?_
  rintro e w2 ⟨ng0, ag0, cg0, rfl, hog0, hb2⟩
  rw [← HEQ1.out]
  have Os0_2 := Lib.hid (Os0_1.out.keep hb2)
  have Og0_2 : Hid (OwnRowU 2 w2 (w1.heap.size) w2.heap.size (.slice ag0 ng0 cg0) E0) := (by have hq := hog0; rw [← HEQ0.out] at hq; exact (hq.mono (by first | exact Nat.le_refl _ | simp)).under)
  have hz2 : w1.heap.size ≤ w2.heap.size := hb2.size
  have HB2 : Hid (Below w.heap.size w w2) := HB1.out.trans (hb2.mono (by first | omega | (simp; omega)))
  clear Os0_1 HB1 hb2
  go_wp2_with fail
  refine (eqInt64S_b _ _ _ _ _ Og0_2.out.read Os0_2.out.read).mono ?_
  rintro e w3 ⟨rfl, hb3⟩
  rw [decide_eq_true rfl]
  have Os0_3 := Lib.hid (Os0_2.out.keep hb3)
  have Og0_3 := Lib.hid (Og0_2.out.keep hb3)
  have hz3 : w2.heap.size ≤ w3.heap.size := hb3.size
  have HB3 : Hid (Below w.heap.size w w3) := HB2.out.trans (hb3.mono (by first | omega | (simp; omega)))
  clear Os0_2 Og0_2 HB2 hb3
  have hone : (0 : Int) ≤ 1 := by omega
  go_wp2_with fail
  refine (markInt64S_any _ _ (w1.heap.size) w2.heap.size _ _ Og0_3.out (by omega) (by omega)).mono ?_
  rintro e w4 ⟨rfl, hogg0, hb4, _, _⟩
  have Os0_4 := Lib.hid (Os0_3.out.apart hb4 (by omega))
  have Og0_4 : Hid (OwnRowU 2 w4 (w1.heap.size) w2.heap.size (.slice ag0 ng0 cg0) (seqFrom (1) E0.length)) := hogg0
  have hz4 : w3.heap.size ≤ w4.heap.size := (hb4.size)
  have HB4 : Hid (Below w.heap.size w w4) := HB3.out.trans ((hb4.below (by first | omega | (simp; omega))).mono (by first | omega | (simp; omega)))
  clear Os0_3 Og0_3 HB3 hb4
  have hmpos : 0 ≤ 1 + (E0.length : Int) := by omega
  have hmne : ((1 + (E0.length : Int)) != (1 + (E0.length : Int))) = false := by simp
  go_wp2_with fail
  refine (heldInt64S_b _ E0.length _ _ Og0_4.out.read (by omega) (by omega)).mono ?_
  rintro e w5 ⟨rfl, hb5⟩
  have Os0_5 := Lib.hid (Os0_4.out.keep hb5)
  have Og0_5 := Lib.hid (Og0_4.out.keep hb5)
  have hz5 : w4.heap.size ≤ w5.heap.size := hb5.size
  have HB5 : Hid (Below w.heap.size w w5) := HB4.out.trans (hb5.mono (by first | omega | (simp; omega)))
  clear Os0_4 Og0_4 HB4 hb5
  go_wp2_with fail
  refine (implTextSet_any _ _ hr0' (hT.keep HB5.out)).mono ?_
  rintro e w6 ⟨nh0, ah0, ch0, rfl, hoh0, hb6⟩
  rw [← HEQ1.out]
  have Os0_6 := Lib.hid (Os0_5.out.keep hb6)
  have Og0_6 := Lib.hid (Og0_5.out.keep hb6)
  have Oh0_6 : Hid (OwnRowU 2 w6 (w5.heap.size) w6.heap.size (.slice ah0 nh0 ch0) E0) := (by have hq := hoh0; rw [← HEQ0.out] at hq; exact (hq.mono (by first | exact Nat.le_refl _ | simp)).under)
  have hz6 : w5.heap.size ≤ w6.heap.size := hb6.size
  have HB6 : Hid (Below w.heap.size w w6) := HB5.out.trans (hb6.mono (by first | omega | (simp; omega)))
  clear Os0_5 Og0_5 HB5 hb6
  go_wp2_with fail
  refine (eqInt64S_b _ _ _ _ _ Oh0_6.out.read Os0_6.out.read).mono ?_
  rintro e w7 ⟨rfl, hb7⟩
  rw [decide_eq_true rfl]
  have Os0_7 := Lib.hid (Os0_6.out.keep hb7)
  have Og0_7 := Lib.hid (Og0_6.out.keep hb7)
  have Oh0_7 := Lib.hid (Oh0_6.out.keep hb7)
  have hz7 : w6.heap.size ≤ w7.heap.size := hb7.size
  have HB7 : Hid (Below w.heap.size w w7) := HB6.out.trans (hb7.mono (by first | omega | (simp; omega)))
  clear Os0_6 Og0_6 Oh0_6 HB6 hb7
  go_wp2_with fail
  refine (heldInt64S_b _ E0.length _ _ Og0_7.out.read (by omega) (by omega)).mono ?_
  rintro e w8 ⟨rfl, hb8⟩
  have Os0_8 := Lib.hid (Os0_7.out.keep hb8)
  have Og0_8 := Lib.hid (Og0_7.out.keep hb8)
  have Oh0_8 := Lib.hid (Oh0_7.out.keep hb8)
  have hz8 : w7.heap.size ≤ w8.heap.size := hb8.size
  have HB8 : Hid (Below w.heap.size w w8) := HB7.out.trans (hb8.mono (by first | omega | (simp; omega)))
  clear Os0_7 Og0_7 Oh0_7 HB7 hb8
  go_wp2
  go_ret
  exact ⟨rfl, HB8.out⟩

end Go.Proofs.YtojbaepcflkgeaaDoor
