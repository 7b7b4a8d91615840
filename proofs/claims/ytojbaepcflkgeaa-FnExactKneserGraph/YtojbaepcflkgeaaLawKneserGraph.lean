/- The walk of the law FnExactKneserGraph, written by program (tools/lawgen2.py) out of the contracts. -/
import Derived.Test.YtojbaepcflkgeaaQMark
import Derived.Test.YtojbaepcflkgeaaQGR9
import Derived.Test.YtojbaepcflkgeaaGM7
import Derived.Deep.RegionHeld3

namespace Go.Proofs.Ytojbaepcflkgeaa
open Go.RowKit

set_option maxHeartbeats 4000000 in
set_option maxRecDepth 100000 in
theorem lawKneserGraph (x0 : Int) (w : World) (hx0 : I64 x0) :
    Calls Try.prog 11 #[.int .i64 x0] w fun e w' => e = .returned (.bool true) ∧ Below w.heap.size w w' := by
  have hsr0 := genL_small (ok := inB x0 4 6) (n := tri x0.toNat) (kneR x0.toNat) (fun h => by have h2 := inB_iff.1 h; have h3 := tri_le (n := x0.toNat) (by omega); omega)
  obtain ⟨E0, hE0⟩ : ∃ x, x = genL (inB x0 4 6) (tri x0.toNat) (kneR x0.toNat) := ⟨_, rfl⟩
  rw [← hE0] at hsr0
  have HEQ0 := Lib.hid hE0
  clear hE0
  obtain ⟨E1, hE1⟩ : ∃ x, x = inB x0 4 6 := ⟨_, rfl⟩
  have HEQ1 := Lib.hid hE1
  clear hE1
  go_enter Try.func11, Try.ntmps11
  go_wp2_with fail
  refine (specKneserGraph_any _ _ ).mono ?_
  rintro e w1 ⟨ns0, as0, cs0, rfl, hos0, hb1⟩
  rw [← HEQ1.out]
  have Os0_1 : Hid (OwnGridU 2 35 w1 (w.heap.size) w1.heap.size (.slice as0 ns0 cs0) E0) := (by have hq := hos0; rw [← HEQ0.out] at hq; exact (hq.mono (by first | exact Nat.le_refl _ | simp)).under)
  have hz1 : w.heap.size ≤ w1.heap.size := hb1.size
  have HB1 : Hid (Below w.heap.size w w1) := hb1
  clear hb1
  have ha2 : Below w1.heap.size w1 (w1.alloc (.cells #[.slice as0 ns0 cs0] 30)) := ((Below.refl _ _).alloc (Nat.le_refl _) _)
  go_wp2_with fail
  refine (implKneserGraph_any _ _ ).mono ?_
  rintro e w2 ⟨ng0, ag0, cg0, rfl, hog0, hb2⟩
  rw [← HEQ1.out]
  have ks0_2 : w2.cell? ⟨w1.heap.size, 0, none⟩ = some (.slice as0 ns0 cs0) := by rw [hb2.cell (by first | (simp; done) | (simp; omega))]; go_simp
  have Os0_2 := Lib.hid ((Os0_1.out.keep ha2).keep hb2)
  have Og0_2 : Hid (OwnGridU 2 35 w2 (w1.heap.size + 1) w2.heap.size (.slice ag0 ng0 cg0) E0) := (by have hq := hog0; rw [← HEQ0.out] at hq; exact (hq.mono (by first | exact Nat.le_refl _ | simp)).under)
  have hz2 : w1.heap.size + 1 ≤ w2.heap.size := by have hq := hb2.size; simpa using hq
  have HB2 : Hid (Below w.heap.size w w2) := (HB1.out.trans (ha2.mono HB1.out.size)).trans (hb2.mono (by first | omega | (simp; omega)))
  clear Os0_1 HB1 ha2 hb2
  have ha3 : Below w2.heap.size w2 (w2.alloc (.cells #[.slice ag0 ng0 cg0] 30)) := ((Below.refl _ _).alloc (Nat.le_refl _) _)
  have ks0_2a := cell_keep ha3 ks0_2
  go_wp2_with fail
  clear ks0_2a
  refine (eqGraph_any _ _ _ _ _ (Og0_2.out.read.keep ha3) (Os0_2.out.read.keep ha3)).mono ?_
  rintro e w3 ⟨rfl, hb3⟩
  rw [decide_eq_true rfl]
  have ks0_3 := cell_keep hb3 (cell_keep ha3 ks0_2)
  have kg0_3 : w3.cell? ⟨w2.heap.size, 0, none⟩ = some (.slice ag0 ng0 cg0) := by rw [hb3.cell (by first | (simp; done) | (simp; omega))]; go_simp
  have Os0_3 := Lib.hid ((Os0_2.out.keep ha3).keep hb3)
  have Og0_3 := Lib.hid ((Og0_2.out.keep ha3).keep hb3)
  have hz3 : w2.heap.size + 1 ≤ w3.heap.size := by have hq := hb3.size; simpa using hq
  have HB3 : Hid (Below w.heap.size w w3) := (HB2.out.trans (ha3.mono HB2.out.size)).trans (hb3.mono (by first | omega | (simp; omega)))
  clear ks0_2 Os0_2 Og0_2 HB2 ha3 hb3
  have hone : (0 : Int) ≤ 1 := by omega
  have hrt0 := totTo_le hsr0.2 E0.length (Nat.le_refl _)
  have hru0 : 1048576 * E0.length ≤ 1048576 * 1048576 := by have := hsr0.1; omega
  go_wp2_with fail
  refine (markGraph_any _ _ (w1.heap.size + 1) w2.heap.size _ _ Og0_3.out (by omega) (by omega) hsr0).mono ?_
  rintro e w4 ⟨rfl, hogg0, hb4⟩
  have ks0_4 := cell_apart ks0_3 hb4 (by dsimp only; omega)
  have kg0_4 := cell_apart kg0_3 hb4 (by dsimp only; omega)
  have Os0_4 := Lib.hid (Os0_3.out.apart hb4 (by omega))
  have Og0_4 : Hid (OwnGridU 2 35 w4 (w1.heap.size + 1) w2.heap.size (.slice ag0 ng0 cg0) (marksG E0 (1))) := hogg0
  have hz4 : w3.heap.size ≤ w4.heap.size := (hb4.size)
  have HB4 : Hid (Below w.heap.size w w4) := HB3.out.trans ((hb4.below (by first | omega | (simp; omega))).mono (by first | omega | (simp; omega)))
  clear ks0_3 kg0_3 Os0_3 Og0_3 HB3 hb4
  have hmpos : 0 ≤ 1 + (totTo E0 E0.length : Int) := by omega
  have hmne : ((1 + (totTo E0 E0.length : Int)) != (1 + (totTo E0 E0.length : Int))) = false := by simp
  go_wp2_with fail
  refine (heldGraph_any _ E0 _ _ Og0_4.out.read (by omega) (by omega) hsr0).mono ?_
  rintro e w5 ⟨rfl, hb5⟩
  have ks0_5 := cell_keep hb5 ks0_4
  have kg0_5 := cell_keep hb5 kg0_4
  have Os0_5 := Lib.hid (Os0_4.out.keep hb5)
  have Og0_5 := Lib.hid (Og0_4.out.keep hb5)
  have hz5 : w4.heap.size ≤ w5.heap.size := hb5.size
  have HB5 : Hid (Below w.heap.size w w5) := HB4.out.trans (hb5.mono (by first | omega | (simp; omega)))
  clear ks0_4 kg0_4 Os0_4 Og0_4 HB4 hb5
  go_wp2_with fail
  refine (implKneserGraph_any _ _ ).mono ?_
  rintro e w6 ⟨nh0, ah0, ch0, rfl, hoh0, hb6⟩
  rw [← HEQ1.out]
  have ks0_6 := cell_keep hb6 ks0_5
  have kg0_6 := cell_keep hb6 kg0_5
  have Os0_6 := Lib.hid (Os0_5.out.keep hb6)
  have Og0_6 := Lib.hid (Og0_5.out.keep hb6)
  have Oh0_6 : Hid (OwnGridU 2 35 w6 (w5.heap.size) w6.heap.size (.slice ah0 nh0 ch0) E0) := (by have hq := hoh0; rw [← HEQ0.out] at hq; exact (hq.mono (by first | exact Nat.le_refl _ | simp)).under)
  have hz6 : w5.heap.size ≤ w6.heap.size := hb6.size
  have HB6 : Hid (Below w.heap.size w w6) := HB5.out.trans (hb6.mono (by first | omega | (simp; omega)))
  clear ks0_5 kg0_5 Os0_5 Og0_5 HB5 hb6
  have ha7 : Below w6.heap.size w6 (w6.alloc (.cells #[.slice ah0 nh0 ch0] 30)) := ((Below.refl _ _).alloc (Nat.le_refl _) _)
  have ks0_6a := cell_keep ha7 ks0_6
  have kg0_6a := cell_keep ha7 kg0_6
  go_wp2_with fail
  clear ks0_6a kg0_6a
  refine (eqGraph_any _ _ _ _ _ (Oh0_6.out.read.keep ha7) (Os0_6.out.read.keep ha7)).mono ?_
  rintro e w7 ⟨rfl, hb7⟩
  rw [decide_eq_true rfl]
  have ks0_7 := cell_keep hb7 (cell_keep ha7 ks0_6)
  have kg0_7 := cell_keep hb7 (cell_keep ha7 kg0_6)
  have kh0_7 : w7.cell? ⟨w6.heap.size, 0, none⟩ = some (.slice ah0 nh0 ch0) := by rw [hb7.cell (by first | (simp; done) | (simp; omega))]; go_simp
  have Os0_7 := Lib.hid ((Os0_6.out.keep ha7).keep hb7)
  have Og0_7 := Lib.hid ((Og0_6.out.keep ha7).keep hb7)
  have Oh0_7 := Lib.hid ((Oh0_6.out.keep ha7).keep hb7)
  have hz7 : w6.heap.size + 1 ≤ w7.heap.size := by have hq := hb7.size; simpa using hq
  have HB7 : Hid (Below w.heap.size w w7) := (HB6.out.trans (ha7.mono HB6.out.size)).trans (hb7.mono (by first | omega | (simp; omega)))
  clear ks0_6 kg0_6 Os0_6 Og0_6 Oh0_6 HB6 ha7 hb7
  go_wp2_with fail
  refine (heldGraph_any _ E0 _ _ Og0_7.out.read (by omega) (by omega) hsr0).mono ?_
  rintro e w8 ⟨rfl, hb8⟩
  have ks0_8 := cell_keep hb8 ks0_7
  have kg0_8 := cell_keep hb8 kg0_7
  have kh0_8 := cell_keep hb8 kh0_7
  have Os0_8 := Lib.hid (Os0_7.out.keep hb8)
  have Og0_8 := Lib.hid (Og0_7.out.keep hb8)
  have Oh0_8 := Lib.hid (Oh0_7.out.keep hb8)
  have hz8 : w7.heap.size ≤ w8.heap.size := hb8.size
  have HB8 : Hid (Below w.heap.size w w8) := HB7.out.trans (hb8.mono (by first | omega | (simp; omega)))
  clear ks0_7 kg0_7 kh0_7 Os0_7 Og0_7 Oh0_7 HB7 hb8
  go_wp2
  go_ret
  exact ⟨rfl, HB8.out⟩

end Go.Proofs.Ytojbaepcflkgeaa
