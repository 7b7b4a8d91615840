/- The texts LawAddedEdge, Frame, joined. -/
import Derived.Test.YtikfbfclbmlopaaD3
import Derived.Deep.RegionHeld3
import Derived.Test.YtikfbfclbmlopaaRows
import Derived.Test.YtikfbfclbmlopaaBase
import Derived.ProofKit
import Derived.OpenShut
import Derived.ShutString
import Derived.ChangeOld
import Derived.Deep.Matrix
import Derived.Test.YtikfbfclbmlopaaQ3

/- The walk of the law FnExactAddedEdge, written by program (tools/lawgen2.py) out of the contracts. -/
namespace Go.Proofs.Ytikfbfclbmlopaa
open Go.RowKit

set_option maxHeartbeats 4000000 in
set_option maxRecDepth 100000 in
theorem lawAddedEdge (v0 : Value) (L0 : List (List Int)) (x1 : Int) (x2 : Int) (w : World) (h0 : GridAt w v0 L0) (hx1 : I64 x1) (hx2 : I64 x2) :
    Calls Try.prog 6 #[.agg #[v0], .int .i64 x1, .int .i64 x2] w fun e w' => e = .returned (.bool true) ∧ Below w.heap.size w w' := by
  obtain ⟨a0, c0, rfl⟩ := h0.slice
  have hsr0 := addEL_small L0 x1 x2
  obtain ⟨E0, hE0⟩ : ∃ x, x = addEL L0 x1 x2 := ⟨_, rfl⟩
  rw [← hE0] at hsr0
  have HEQ0 := Lib.hid hE0
  clear hE0
  obtain ⟨E1, hE1⟩ : ∃ x, x = addB L0 x1 x2 := ⟨_, rfl⟩
  have HEQ1 := Lib.hid hE1
  clear hE1
  go_enter Try.func6, Try.ntmps6
  have ha1 : Below w.heap.size w (w.alloc (.cells #[.slice a0 L0.length c0] 51)) := ((Below.refl _ _).alloc (Nat.le_refl _) _)
  go_wp2_with fail
  refine (szGraph_any _ _ _ _ (h0.keep ha1) (by omega) (by omega)).mono ?_
  rintro e w1 ⟨rfl, hb1⟩
  have kb0_1 : w1.cell? ⟨w.heap.size, 0, none⟩ = some (.slice a0 L0.length c0) := by rw [hb1.cell (by first | (simp; done) | (simp; omega))]; go_simp
  have hz1 : w.heap.size + 1 ≤ w1.heap.size := by have hq := hb1.size; simpa using hq
  have HB1 : Hid (Below w.heap.size w w1) := ha1.trans (hb1.mono (by first | (simp; done) | (simp; omega)))
  clear ha1 hb1
  by_cases hs0 : szGrid L0 1048576 < 0
  · go_wp2
    go_ret
    exact ⟨rfl, HB1.out⟩
  have hsm0 := (szGrid_small (L := L0) (left := 1048576) (by omega) (by omega)).1
  have hle0 := (szGrid_small (L := L0) (left := 1048576) (by omega) (by omega)).2
  go_wp2_with fail
  refine (toGraph_any _ _ _ (h0.keep HB1.out) hsm0).mono ?_
  rintro e w2 ⟨np0, ap0, cp0, rfl, hop0, hb2⟩
  have kb0_2 := cell_keep hb2 kb0_1
  have Op0_2 : Hid (OwnGridU 2 34 w2 (w1.heap.size) w2.heap.size (.slice ap0 np0 cp0) L0) := (hop0.mono (by first | exact Nat.le_refl _ | simp)).under
  have hz2 : w1.heap.size ≤ w2.heap.size := hb2.size
  have HB2 : Hid (Below w.heap.size w w2) := HB1.out.trans (hb2.mono (by first | omega | (simp; omega)))
  clear kb0_1 HB1 hb2
  go_wp2_with fail
  refine (specAddedEdge_any _ _ _ _ _ Op0_2.out.read hx1 hx2).mono ?_
  rintro e w3 ⟨ns0, as0, cs0, rfl, hos0, hb3⟩
  rw [← HEQ1.out]
  have kb0_3 := cell_keep hb3 kb0_2
  have Op0_3 := Lib.hid (Op0_2.out.keep hb3)
  have Os0_3 : Hid (OwnGridU 2 34 w3 (w2.heap.size) w3.heap.size (.slice as0 ns0 cs0) E0) := (by have hq := hos0; rw [← HEQ0.out] at hq; exact (hq.mono (by first | exact Nat.le_refl _ | simp)).under)
  have hz3 : w2.heap.size ≤ w3.heap.size := hb3.size
  have HB3 : Hid (Below w.heap.size w w3) := HB2.out.trans (hb3.mono (by first | omega | (simp; omega)))
  clear kb0_2 Op0_2 HB2 hb3
  have ha4 : Below w3.heap.size w3 (w3.alloc (.cells #[.slice as0 ns0 cs0] 26)) := ((Below.refl _ _).alloc (Nat.le_refl _) _)
  have kb0_3a := cell_keep ha4 kb0_3
  go_wp2_with fail
  clear kb0_3a
  refine (toGraph_any _ _ _ ((h0.keep HB3.out).keep ha4) hsm0).mono ?_
  rintro e w4 ⟨nx0, ax0, cx0, rfl, hox0, hb4⟩
  have kb0_4 := cell_keep hb4 (cell_keep ha4 kb0_3)
  have ks0_4 : w4.cell? ⟨w3.heap.size, 0, none⟩ = some (.slice as0 ns0 cs0) := by rw [hb4.cell (by first | (simp; done) | (simp; omega))]; go_simp
  have Os0_4 := Lib.hid ((Os0_3.out.keep ha4).keep hb4)
  have Ox0_4 : Hid (OwnGridU 2 34 w4 (w3.heap.size + 1) w4.heap.size (.slice ax0 nx0 cx0) L0) := (hox0.mono (by first | exact Nat.le_refl _ | simp)).under
  have hz4 : w3.heap.size + 1 ≤ w4.heap.size := by have hq := hb4.size; simpa using hq
  have HB4 : Hid (Below w.heap.size w w4) := (HB3.out.trans (ha4.mono HB3.out.size)).trans (hb4.mono (by first | omega | (simp; omega)))
  clear kb0_3 Os0_3 HB3 ha4 hb4
  have ha5 : Below w4.heap.size w4 (w4.alloc (.cells #[.slice ax0 nx0 cx0] 26)) := ((Below.refl _ _).alloc (Nat.le_refl _) _)
  have kb0_4a := cell_keep ha5 kb0_4
  have ks0_4a := cell_keep ha5 ks0_4
  go_wp2_with fail
  clear kb0_4a ks0_4a
  refine (implAddedEdge_any _ _ _ _ _ (Ox0_4.out.read.keep ha5) hx1 hx2).mono ?_
  rintro e w5 ⟨ng0, ag0, cg0, rfl, hog0, hb5⟩
  rw [← HEQ1.out]
  have kb0_5 := cell_keep hb5 (cell_keep ha5 kb0_4)
  have ks0_5 := cell_keep hb5 (cell_keep ha5 ks0_4)
  have kx0_5 : w5.cell? ⟨w4.heap.size, 0, none⟩ = some (.slice ax0 nx0 cx0) := by rw [hb5.cell (by first | (simp; done) | (simp; omega))]; go_simp
  have Os0_5 := Lib.hid ((Os0_4.out.keep ha5).keep hb5)
  have Ox0_5 := Lib.hid ((Ox0_4.out.keep ha5).keep hb5)
  have Og0_5 : Hid (OwnGridU 2 34 w5 (w4.heap.size + 1) w5.heap.size (.slice ag0 ng0 cg0) E0) := (by have hq := hog0; rw [← HEQ0.out] at hq; exact (hq.mono (by first | exact Nat.le_refl _ | simp)).under)
  have hz5 : w4.heap.size + 1 ≤ w5.heap.size := by have hq := hb5.size; simpa using hq
  have HB5 : Hid (Below w.heap.size w w5) := (HB4.out.trans (ha5.mono HB4.out.size)).trans (hb5.mono (by first | omega | (simp; omega)))
  clear kb0_4 ks0_4 Os0_4 Ox0_4 HB4 ha5 hb5
  have ha6 : Below w5.heap.size w5 (w5.alloc (.cells #[.slice ag0 ng0 cg0] 26)) := ((Below.refl _ _).alloc (Nat.le_refl _) _)
  have kb0_5a := cell_keep ha6 kb0_5
  have ks0_5a := cell_keep ha6 ks0_5
  have kx0_5a := cell_keep ha6 kx0_5
  go_wp2_with fail
  clear kb0_5a ks0_5a kx0_5a
  refine (eqGraph_any _ _ _ _ _ (Og0_5.out.read.keep ha6) (Os0_5.out.read.keep ha6)).mono ?_
  rintro e w6 ⟨rfl, hb6⟩
  rw [decide_eq_true rfl]
  have kb0_6 := cell_keep hb6 (cell_keep ha6 kb0_5)
  have ks0_6 := cell_keep hb6 (cell_keep ha6 ks0_5)
  have kx0_6 := cell_keep hb6 (cell_keep ha6 kx0_5)
  have kg0_6 : w6.cell? ⟨w5.heap.size, 0, none⟩ = some (.slice ag0 ng0 cg0) := by rw [hb6.cell (by first | (simp; done) | (simp; omega))]; go_simp
  have Os0_6 := Lib.hid ((Os0_5.out.keep ha6).keep hb6)
  have Ox0_6 := Lib.hid ((Ox0_5.out.keep ha6).keep hb6)
  have Og0_6 := Lib.hid ((Og0_5.out.keep ha6).keep hb6)
  have hz6 : w5.heap.size + 1 ≤ w6.heap.size := by have hq := hb6.size; simpa using hq
  have HB6 : Hid (Below w.heap.size w w6) := (HB5.out.trans (ha6.mono HB5.out.size)).trans (hb6.mono (by first | omega | (simp; omega)))
  clear kb0_5 ks0_5 kx0_5 Os0_5 Ox0_5 Og0_5 HB5 ha6 hb6
  go_wp2
  go_region_held3 (fun wx => wx.cell? ⟨w.heap.size, 0, none⟩ = some (.slice a0 L0.length c0) ∧ wx.cell? ⟨w4.heap.size, 0, none⟩ = some (.slice ax0 nx0 cx0)) (first | exact ⟨kb0_6, kx0_6⟩ | exact ⟨kb0_7r1, kx0_7r1⟩ | exact ⟨kb0_7r2, kx0_7r2⟩)
    (first | (go_at_call 48; refine (toGraph_any _ _ _ ((h0.keep HB6.out).keep (Below.refl _ _).drew) hsm0).mono ?_; rintro e w7r1 ⟨ny0, ay0, cy0, rfl, hoy0, hb7r1⟩; have kb0_7r1 := cell_keep hb7r1 (cell_keep (Below.refl _ _).drew kb0_6); have ks0_7r1 := cell_keep hb7r1 (cell_keep (Below.refl _ _).drew ks0_6); have kx0_7r1 := cell_keep hb7r1 (cell_keep (Below.refl _ _).drew kx0_6); have kg0_7r1 := cell_keep hb7r1 (cell_keep (Below.refl _ _).drew kg0_6); have Os0_7r1 := Lib.hid ((Os0_6.out.keep (Below.refl _ _).drew).keep hb7r1); have Ox0_7r1 := Lib.hid ((Ox0_6.out.keep (Below.refl _ _).drew).keep hb7r1); have Og0_7r1 := Lib.hid ((Og0_6.out.keep (Below.refl _ _).drew).keep hb7r1); have Oy0_7r1 : Hid (OwnGridU 2 34 w7r1 (w6.heap.size) w7r1.heap.size (.slice ay0 ny0 cy0) L0) := (hoy0.mono (by first | exact Nat.le_refl _ | simp)).under; have hz7r1 : w6.heap.size ≤ w7r1.heap.size := hb7r1.size; have HB7r1 : Hid (Below w.heap.size w w7r1) := HB6.out.drew.trans (hb7r1.mono HB6.out.size); clear hb7r1) | (go_at_call 49; refine (eqGraph_any _ _ _ _ _ Ox0_7r1.out.read Oy0_7r1.out.read).mono ?_; rintro e w7r2 ⟨rfl, hb7r2⟩; have kb0_7r2 := cell_keep hb7r2 kb0_7r1; have ks0_7r2 := cell_keep hb7r2 ks0_7r1; have kx0_7r2 := cell_keep hb7r2 kx0_7r1; have kg0_7r2 := cell_keep hb7r2 kg0_7r1; have Os0_7r2 := Lib.hid (Os0_7r1.out.keep hb7r2); have Ox0_7r2 := Lib.hid (Ox0_7r1.out.keep hb7r2); have Og0_7r2 := Lib.hid (Og0_7r1.out.keep hb7r2); have Oy0_7r2 := Lib.hid (Oy0_7r1.out.keep hb7r2); have hz7r2 : w7r1.heap.size ≤ w7r2.heap.size := hb7r2.size; have HB7r2 : Hid (Below w.heap.size w w7r2) := HB7r1.out.trans (hb7r2.mono HB7r1.out.size); clear hb7r2; rw [decide_eq_true rfl]))
  clear kb0_6 ks0_6 kx0_6 kg0_6 Os0_6 Ox0_6 Og0_6 HB6 kb0_7r1 ks0_7r1 kx0_7r1 kg0_7r1 Os0_7r1 Ox0_7r1 Og0_7r1 Oy0_7r1 HB7r1
  have hone : (0 : Int) ≤ 1 := by omega
  have htt0 := totTo_le hsm0.2 L0.length (Nat.le_refl _)
  have htu0 : 1048576 * L0.length ≤ 1048576 * 1048576 := by have := hsm0.1; omega
  go_wp2_with fail
  refine (markGraph_any _ _ (w3.heap.size + 1) w4.heap.size _ _ Ox0_7r2.out (by omega) (by omega) hsm0).mono ?_
  rintro e w8 ⟨rfl, hogx0, hb8⟩
  have kb0_8 := cell_apart kb0_7r2 hb8 (by dsimp only; omega)
  have ks0_8 := cell_apart ks0_7r2 hb8 (by dsimp only; omega)
  have kx0_8 := cell_apart kx0_7r2 hb8 (by dsimp only; omega)
  have kg0_8 := cell_apart kg0_7r2 hb8 (by dsimp only; omega)
  have Os0_8 := Lib.hid (Os0_7r2.out.apart hb8 (by omega))
  have Og0_8 := Lib.hid (Og0_7r2.out.apart hb8 (by omega))
  have Ox0_8 : Hid (OwnGridU 2 34 w8 (w3.heap.size + 1) w4.heap.size (.slice ax0 nx0 cx0) (marksG L0 (1))) := hogx0
  have hz8 : w7r2.heap.size ≤ w8.heap.size := (hb8.size)
  have HB8 : Hid (Below w.heap.size w w8) := HB7r2.out.trans ((hb8.below (by first | omega | (simp; omega))).mono (by first | omega | (simp; omega)))
  clear kb0_7r2 ks0_7r2 kx0_7r2 kg0_7r2 Os0_7r2 Og0_7r2 Ox0_7r2 HB7r2 hb8
  have hkpos : 0 ≤ 1 + (totTo L0 L0.length : Int) := by omega
  go_wp2_with fail
  refine (eqGraph_any _ _ _ _ _ Og0_8.out.read Os0_8.out.read).mono ?_
  rintro e w9 ⟨rfl, hb9⟩
  rw [decide_eq_true rfl]
  have kb0_9 := cell_keep hb9 kb0_8
  have ks0_9 := cell_keep hb9 ks0_8
  have kx0_9 := cell_keep hb9 kx0_8
  have kg0_9 := cell_keep hb9 kg0_8
  have Os0_9 := Lib.hid (Os0_8.out.keep hb9)
  have Og0_9 := Lib.hid (Og0_8.out.keep hb9)
  have Ox0_9 := Lib.hid (Ox0_8.out.keep hb9)
  have hz9 : w8.heap.size ≤ w9.heap.size := hb9.size
  have HB9 : Hid (Below w.heap.size w w9) := HB8.out.trans (hb9.mono (by first | omega | (simp; omega)))
  clear kb0_8 ks0_8 kx0_8 kg0_8 Os0_8 Og0_8 Ox0_8 HB8 hb9
  have hrt0 := totTo_le hsr0.2 E0.length (Nat.le_refl _)
  have hru0 : 1048576 * E0.length ≤ 1048576 * 1048576 := by have := hsr0.1; omega
  go_wp2_with fail
  refine (markGraph_any _ _ (w4.heap.size + 1) w5.heap.size _ _ Og0_9.out (by omega) (by omega) hsr0).mono ?_
  rintro e w10 ⟨rfl, hogg0, hb10⟩
  have kb0_10 := cell_apart kb0_9 hb10 (by dsimp only; omega)
  have ks0_10 := cell_apart ks0_9 hb10 (by dsimp only; omega)
  have kx0_10 := cell_apart kx0_9 hb10 (by dsimp only; omega)
  have kg0_10 := cell_apart kg0_9 hb10 (by dsimp only; omega)
  have Os0_10 := Lib.hid (Os0_9.out.apart hb10 (by omega))
  have Ox0_10 := Lib.hid (Ox0_9.out.apart hb10 (by omega))
  have Og0_10 : Hid (OwnGridU 2 34 w10 (w4.heap.size + 1) w5.heap.size (.slice ag0 ng0 cg0) (marksG E0 (1))) := hogg0
  have hz10 : w9.heap.size ≤ w10.heap.size := (hb10.size)
  have HB10 : Hid (Below w.heap.size w w10) := HB9.out.trans ((hb10.below (by first | omega | (simp; omega))).mono (by first | omega | (simp; omega)))
  clear kb0_9 ks0_9 kx0_9 kg0_9 Os0_9 Ox0_9 Og0_9 HB9 hb10
  have hmpos : 0 ≤ 1 + (totTo E0 E0.length : Int) := by omega
  have hmne : ((1 + (totTo E0 E0.length : Int)) != (1 + (totTo E0 E0.length : Int))) = false := by simp
  go_wp2_with fail
  refine (heldGraph_any _ E0 _ _ Og0_10.out.read (by omega) (by omega) hsr0).mono ?_
  rintro e w11 ⟨rfl, hb11⟩
  have kb0_11 := cell_keep hb11 kb0_10
  have ks0_11 := cell_keep hb11 ks0_10
  have kx0_11 := cell_keep hb11 kx0_10
  have kg0_11 := cell_keep hb11 kg0_10
  have Os0_11 := Lib.hid (Os0_10.out.keep hb11)
  have Ox0_11 := Lib.hid (Ox0_10.out.keep hb11)
  have Og0_11 := Lib.hid (Og0_10.out.keep hb11)
  have hz11 : w10.heap.size ≤ w11.heap.size := hb11.size
  have HB11 : Hid (Below w.heap.size w w11) := HB10.out.trans (hb11.mono (by first | omega | (simp; omega)))
  clear kb0_10 ks0_10 kx0_10 kg0_10 Os0_10 Ox0_10 Og0_10 HB10 hb11
  go_wp2_with fail
  refine (toGraph_any _ _ _ (h0.keep HB11.out) hsm0).mono ?_
  rintro e w12 ⟨nq0, aq0, cq0, rfl, hoq0, hb12⟩
  have kb0_12 := cell_keep hb12 kb0_11
  have ks0_12 := cell_keep hb12 ks0_11
  have kx0_12 := cell_keep hb12 kx0_11
  have kg0_12 := cell_keep hb12 kg0_11
  have Os0_12 := Lib.hid (Os0_11.out.keep hb12)
  have Ox0_12 := Lib.hid (Ox0_11.out.keep hb12)
  have Og0_12 := Lib.hid (Og0_11.out.keep hb12)
  have Oq0_12 : Hid (OwnGridU 2 34 w12 (w11.heap.size) w12.heap.size (.slice aq0 nq0 cq0) L0) := (hoq0.mono (by first | exact Nat.le_refl _ | simp)).under
  have hz12 : w11.heap.size ≤ w12.heap.size := hb12.size
  have HB12 : Hid (Below w.heap.size w w12) := HB11.out.trans (hb12.mono (by first | omega | (simp; omega)))
  clear kb0_11 ks0_11 kx0_11 kg0_11 Os0_11 Ox0_11 Og0_11 HB11 hb12
  go_wp2_with fail
  refine (implAddedEdge_any _ _ _ _ _ Oq0_12.out.read hx1 hx2).mono ?_
  rintro e w13 ⟨nh0, ah0, ch0, rfl, hoh0, hb13⟩
  rw [← HEQ1.out]
  have kb0_13 := cell_keep hb13 kb0_12
  have ks0_13 := cell_keep hb13 ks0_12
  have kx0_13 := cell_keep hb13 kx0_12
  have kg0_13 := cell_keep hb13 kg0_12
  have Os0_13 := Lib.hid (Os0_12.out.keep hb13)
  have Ox0_13 := Lib.hid (Ox0_12.out.keep hb13)
  have Og0_13 := Lib.hid (Og0_12.out.keep hb13)
  have Oq0_13 := Lib.hid (Oq0_12.out.keep hb13)
  have Oh0_13 : Hid (OwnGridU 2 34 w13 (w12.heap.size) w13.heap.size (.slice ah0 nh0 ch0) E0) := (by have hq := hoh0; rw [← HEQ0.out] at hq; exact (hq.mono (by first | exact Nat.le_refl _ | simp)).under)
  have hz13 : w12.heap.size ≤ w13.heap.size := hb13.size
  have HB13 : Hid (Below w.heap.size w w13) := HB12.out.trans (hb13.mono (by first | omega | (simp; omega)))
  clear kb0_12 ks0_12 kx0_12 kg0_12 Os0_12 Ox0_12 Og0_12 Oq0_12 HB12 hb13
  have ha14 : Below w13.heap.size w13 (w13.alloc (.cells #[.slice ah0 nh0 ch0] 26)) := ((Below.refl _ _).alloc (Nat.le_refl _) _)
  have kb0_13a := cell_keep ha14 kb0_13
  have ks0_13a := cell_keep ha14 ks0_13
  have kx0_13a := cell_keep ha14 kx0_13
  have kg0_13a := cell_keep ha14 kg0_13
  go_wp2_with fail
  clear kb0_13a ks0_13a kx0_13a kg0_13a
  refine (eqGraph_any _ _ _ _ _ (Oh0_13.out.read.keep ha14) (Os0_13.out.read.keep ha14)).mono ?_
  rintro e w14 ⟨rfl, hb14⟩
  rw [decide_eq_true rfl]
  have kb0_14 := cell_keep hb14 (cell_keep ha14 kb0_13)
  have ks0_14 := cell_keep hb14 (cell_keep ha14 ks0_13)
  have kx0_14 := cell_keep hb14 (cell_keep ha14 kx0_13)
  have kg0_14 := cell_keep hb14 (cell_keep ha14 kg0_13)
  have kh0_14 : w14.cell? ⟨w13.heap.size, 0, none⟩ = some (.slice ah0 nh0 ch0) := by rw [hb14.cell (by first | (simp; done) | (simp; omega))]; go_simp
  have Os0_14 := Lib.hid ((Os0_13.out.keep ha14).keep hb14)
  have Ox0_14 := Lib.hid ((Ox0_13.out.keep ha14).keep hb14)
  have Og0_14 := Lib.hid ((Og0_13.out.keep ha14).keep hb14)
  have Oh0_14 := Lib.hid ((Oh0_13.out.keep ha14).keep hb14)
  have hz14 : w13.heap.size + 1 ≤ w14.heap.size := by have hq := hb14.size; simpa using hq
  have HB14 : Hid (Below w.heap.size w w14) := (HB13.out.trans (ha14.mono HB13.out.size)).trans (hb14.mono (by first | omega | (simp; omega)))
  clear kb0_13 ks0_13 kx0_13 kg0_13 Os0_13 Ox0_13 Og0_13 Oh0_13 HB13 ha14 hb14
  go_wp2_with fail
  refine (heldGraph_any _ E0 _ _ Og0_14.out.read (by omega) (by omega) hsr0).mono ?_
  rintro e w15 ⟨rfl, hb15⟩
  have kb0_15 := cell_keep hb15 kb0_14
  have ks0_15 := cell_keep hb15 ks0_14
  have kx0_15 := cell_keep hb15 kx0_14
  have kg0_15 := cell_keep hb15 kg0_14
  have kh0_15 := cell_keep hb15 kh0_14
  have Os0_15 := Lib.hid (Os0_14.out.keep hb15)
  have Ox0_15 := Lib.hid (Ox0_14.out.keep hb15)
  have Og0_15 := Lib.hid (Og0_14.out.keep hb15)
  have Oh0_15 := Lib.hid (Oh0_14.out.keep hb15)
  have hz15 : w14.heap.size ≤ w15.heap.size := hb15.size
  have HB15 : Hid (Below w.heap.size w w15) := HB14.out.trans (hb15.mono (by first | omega | (simp; omega)))
  clear kb0_14 ks0_14 kx0_14 kg0_14 kh0_14 Os0_14 Ox0_14 Og0_14 Oh0_14 HB14 hb15
  go_wp2
  go_ret
  exact ⟨rfl, HB15.out⟩

end Go.Proofs.Ytikfbfclbmlopaa

/- From what a row's form reads as data to our words: a slice of int64, a slice of such slices, a graph. -/
namespace Go.Proofs.Ytikfbfclbmlopaa
open Go.ChangeShapes Go.WideShapes Go.ChangeAt Go.RowKit Go.Deep

theorem own : ownKnob Try.prog.godebug = none := by kernel_rfl
theorem laidOut : laidOutB Try.prog = true := by kernel_rfl

theorem i64_wf {n : Int} (h : (Lit.int .i64 n).wf = true) : I64 n := by
  have := bounds_i64 h
  unfold I64
  omega

section
variable {H : Type} {enc : TypeId × Value → H} {P : Program} {w : World} {base : Nat} {held : Bool}

theorem addr_none {a : Addr} {i : Nat} {v : Value} (h : w.cell? (a.add i) = some v) (hp : i = 0) : a.spot = none := by
  subst hp
  simpa [Addr.add] using World.cell?_spot h

theorem addr_form {a : Addr} (h : a.spot = none) (i : Nat) : a.add i = ⟨a.block, a.off + i, none⟩ := by
  obtain ⟨b, o, s⟩ := a
  simp at h
  subst h
  unfold Addr.add
  split
  · rename_i e; subst e; rfl
  · rfl

theorem rowAt_of {A : Option Addr} {n c : Nat} {zs : List Int} (hlen : zs.length = n) (hm : n ≤ maxLen) (hc : n ≤ c) (hcm : c ≤ maxLen) (hi : ∀ z ∈ zs, I64 z) (h0 : A = none → c = 0) (hcell : ∀ a, A = some a → ∀ i, i < n → w.cell? (a.add i) = some (.int .i64 (nth zs i))) : RowAt w (.slice A n c) zs := by
  refine ⟨hi, by omega, ?_⟩
  by_cases hz : n = 0
  · subst hz
    exact Or.inl ⟨List.length_eq_zero_iff.1 hlen, A, c, rfl, h0⟩
  · cases A with
    | none => exact absurd (h0 rfl) (by omega)
    | some a =>
      have hs := addr_none (hcell a rfl 0 (by omega)) rfl
      refine Or.inr ⟨a.block, a.off, c, ?_, by omega, hcm, fun i hi' => ?_⟩
      · obtain ⟨b, o, s⟩ := a
        simp at hs
        subst hs
        rw [hlen]
      · rw [← addr_form hs]
        exact hcell a rfl i (by omega)

theorem row_of_trod {t e : TypeId} {fuel : Nat} {v : Value} {x : DataW H × List MemPlace} (ht : P.underlying t = some (.slice e)) (he : P.underlying e = some (.int .i64)) (ce : P.cellsOf e = 1)
    (h : DataW.trod enc P w base (fun _ => true) held fuel t [v] = some x) : ∃ xs, RowAt w v xs := by
  rcases open_ints ht he ce h with ⟨hcs, _⟩ | ⟨a, l, c, zs, hcs, _, hl, hm, hz, _, hcell, hwz⟩
  · simp at hcs
    subst hcs
    exact ⟨[], by simp, by simp, Or.inl ⟨rfl, none, 0, rfl, fun _ => rfl⟩⟩
  · simp at hcs
    subst hcs
    simp only [if_true] at hz
    refine ⟨zs.take l, rowAt_of (by simp; omega) (by omega) hl hm (fun z hzz => i64_wf (hwz z (List.mem_of_mem_take hzz))) (by simp) (fun a' e i hi => ?_)⟩
    cases e
    rw [hcell i (by omega)]
    simp [nth, hi]

theorem grid_of_trod {t e q : TypeId} {fuel : Nat} {v : Value} {x : DataW H × List MemPlace} (ht : P.underlying t = some (.slice e)) (he : P.underlying e = some (.slice q)) (hq : P.underlying q = some (.int .i64)) (ce : P.cellsOf e = 1) (cq : P.cellsOf q = 1)
    (h : DataW.trod enc P w base (fun _ => true) held fuel t [v] = some x) : ∃ L, GridAt w v L := by
  rcases open_int_rows ht he hq ce cq h with ⟨hcs, _⟩ | ⟨a, len, cap, A, Ln, C, Z, hcs, _, hl, hm, _, hr⟩
  · simp at hcs
    subst hcs
    exact ⟨[], by simp, Or.inl ⟨rfl, none, 0, rfl, fun _ => rfl⟩⟩
  · simp at hcs
    subst hcs
    refine ⟨(List.range len).map (fun r => (Z r).take (Ln r)), by simp; omega, ?_⟩
    by_cases h0 : len = 0
    · subst h0
      exact Or.inl ⟨by simp, _, cap, rfl, fun h => by cases h⟩
    · have hs := addr_none (hr 0 (by omega)).1 rfl
      refine Or.inr ⟨a.block, a.off, cap, ?_, by simp; exact hl, hm, fun i hi => ?_⟩
      · obtain ⟨b, o, s⟩ := a
        simp at hs
        subst hs
        simp
      · have hi' : i < len := by simpa using hi
        obtain ⟨r1, r2, r3, r4, r5, r6, r7⟩ := hr i (by omega)
        refine ⟨.slice (A i) (Ln i) (C i), by rw [← addr_form hs]; exact r1, ?_⟩
        have e1 : nthR ((List.range len).map (fun r => (Z r).take (Ln r))) i = (Z i).take (Ln i) := by simp [nthR, hi']
        rw [e1]
        refine rowAt_of (by simp; omega) (by omega) r2 r3 (fun z hzz => i64_wf (r5 z (List.mem_of_mem_take hzz))) (fun e => r6 e) (fun a' e j hj => ?_)
        rw [(r7 a' e).2 j (by omega)]
        simp [nth, hj]

/-- A struct of one field of one cell, by value. -/
theorem open_agg1 {spare : Nat → Bool} {r : Reach} {b0 : Nat} {t : TypeId} {f0 : Field} {v : Value} {d : DataW H} {p : List MemPlace} (hs : P.underlying t = some (.struct #[f0])) (h0 : f0.offset = 0) (h1 : P.cellsOf f0.type = 1) (hC : P.cellsOf t = 1)
    (hv : Value.okWide P w r b0 t v) (h : DataW.Trod enc P w base spare held t v d p) :
    ∃ (v0 : Value) (y0 : DataW H × List MemPlace) (n : Nat), v = .agg #[v0] ∧ DataW.trod enc P w base spare held n f0.type [v0] = some y0 := by
  obtain ⟨cs, rfl, hsz⟩ := okWide_struct hs hv
  have h2 : cs.size = 1 := hsz.trans hC
  obtain ⟨c0, rfl⟩ : ∃ c, cs = #[c] := by
    obtain ⟨l⟩ := cs
    match l, h2 with
    | [c], _ => exact ⟨c, rfl⟩
  obtain ⟨fuel, hf⟩ := h
  obtain ⟨y0, n, _, _, h3⟩ := trod_struct1 hs hf
  exact ⟨c0, y0, n, rfl, by simpa [Value.cells, h0, h1] using h3⟩

end

theorem Try.cells24 : Try.prog.cellsOf 24 = 1 := by kernel_rfl
theorem Try.cells34 : Try.prog.cellsOf 34 = 1 := by kernel_rfl
theorem Try.cells2 : Try.prog.cellsOf 2 = 1 := by kernel_rfl
theorem Try.cells38 : Try.prog.cellsOf 51 = 1 := by kernel_rfl

set_option maxRecDepth 100000 in
/-- An argument of type laws.Graph, opened. -/
theorem open_graph {H : Type} {enc : TypeId × Value → H} {W : World} {b0 : Nat} {v : Value} {d : DataW H} {p : List MemPlace} (hv : Value.okWide Try.prog W .any b0 51 v) (h : DataW.Trod enc Try.prog W 0 (fun _ => true) true 51 v d p) :
    ∃ g L, v = .agg #[g] ∧ GridAt W g L := by
  obtain ⟨g, y0, n, rfl, h0⟩ := open_agg1 Try.underlying51 rfl Try.cells24 Try.cells38 hv h
  obtain ⟨L, hL⟩ := grid_of_trod Try.underlying24 Try.underlying34 Try.underlying2 Try.cells34 Try.cells2 h0
  exact ⟨g, L, rfl, hL⟩

set_option maxRecDepth 100000 in
/-- An argument of type []int64, opened. -/
theorem open_row {H : Type} {enc : TypeId × Value → H} {W : World} {b0 : Nat} {v : Value} {d : DataW H} {p : List MemPlace} (hv : Value.okWide Try.prog W .any b0 34 v) (h : DataW.Trod enc Try.prog W 0 (fun _ => true) true 34 v d p) :
    ∃ L, RowAt W v L := by
  obtain ⟨a0, len, cap, rfl⟩ := okWide_slice Try.underlying34 hv
  obtain ⟨fuel, hf⟩ := h
  obtain ⟨L, hL⟩ := row_of_trod Try.underlying34 Try.underlying2 Try.cells2 hf
  exact ⟨L, hL⟩

set_option maxRecDepth 100000 in
/-- An argument of type [][]int64, opened. -/
theorem open_grid {H : Type} {enc : TypeId × Value → H} {W : World} {b0 : Nat} {v : Value} {d : DataW H} {p : List MemPlace} (hv : Value.okWide Try.prog W .any b0 24 v) (h : DataW.Trod enc Try.prog W 0 (fun _ => true) true 24 v d p) :
    ∃ L, GridAt W v L := by
  obtain ⟨a0, len, cap, rfl⟩ := okWide_slice Try.underlying24 hv
  obtain ⟨fuel, hf⟩ := h
  obtain ⟨L, hL⟩ := grid_of_trod Try.underlying24 Try.underlying34 Try.underlying2 Try.cells34 Try.cells2 hf
  exact ⟨L, hL⟩

end Go.Proofs.Ytikfbfclbmlopaa
