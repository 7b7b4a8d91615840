/- The walk of the law FnExactCanonical, written by program (tools/lawgen2.py) out of the contracts. -/
import Derived.Test.YtgeifbgjfbfcfaaQMark
import Derived.Test.YtgeifbgjfbfcfaaQCP1
import Derived.Deep.RegionHeld3

namespace Go.Proofs.Ytgeifbgjfbfcfaa
open Go.RowKit

set_option maxHeartbeats 4000000 in
set_option maxRecDepth 100000 in
theorem lawCanonical (v0 : Value) (L0 : List (List Int)) (w : World) (h0 : GridAt w v0 L0) :
    Calls Try.prog 4 #[.agg #[v0]] w fun e w' => e = .returned (.bool true) ∧ Below w.heap.size w w' := by
  obtain ⟨a0, c0, rfl⟩ := h0.slice
  have hsr0 := canG_small L0
  have hsr1 := canR_small L0
  obtain ⟨E0, hE0⟩ : ∃ x, x = canG L0 := ⟨_, rfl⟩
  rw [← hE0] at hsr0
  have HEQ0 := Lib.hid hE0
  clear hE0
  obtain ⟨E1, hE1⟩ : ∃ x, x = canR L0 := ⟨_, rfl⟩
  rw [← hE1] at hsr1
  have HEQ1 := Lib.hid hE1
  clear hE1
  go_enter Try.func4, Try.ntmps4
  have ha1 : Below w.heap.size w (w.alloc (.cells #[.slice a0 L0.length c0] 39)) := ((Below.refl _ _).alloc (Nat.le_refl _) _)
  go_wp2_with fail
  refine (szGraph_any _ _ _ _ (h0.keep ha1) (by omega) (by omega)).mono ?_
  rintro e w1 ⟨rfl, hb1⟩
  have kb0_1 : w1.cell? ⟨w.heap.size, 0, none⟩ = some (.slice a0 L0.length c0) := by rw [hb1.cell (by first | (simp; done) | (simp; omega))]; go_simp
  have hz1 : w.heap.size + 1 ≤ w1.heap.size := by have hq := hb1.size; simpa using hq
  have HB1 : Hid (Below w.heap.size w w1) := ha1.trans (hb1.mono (by first | (simp; done) | (simp; omega)))
  clear ha1 hb1
  by_cases hs0 : szGrid L0 1048576 < 0
  · go_wp2
    go_ret
    exact ⟨rfl, HB1.out⟩
  have hsm0 := (szGrid_small (L := L0) (left := 1048576) (by omega) (by omega)).1
  have hle0 := (szGrid_small (L := L0) (left := 1048576) (by omega) (by omega)).2
  go_wp2_with fail
  refine (toGraph_any _ _ _ (h0.keep HB1.out) hsm0).mono ?_
  rintro e w2 ⟨np0, ap0, cp0, rfl, hop0, hb2⟩
  have kb0_2 := cell_keep hb2 kb0_1
  have Op0_2 : Hid (OwnGridU 2 29 w2 (w1.heap.size) w2.heap.size (.slice ap0 np0 cp0) L0) := (hop0.mono (by first | exact Nat.le_refl _ | simp)).under
  have hz2 : w1.heap.size ≤ w2.heap.size := hb2.size
  have HB2 : Hid (Below w.heap.size w w2) := HB1.out.trans (hb2.mono (by first | omega | (simp; omega)))
  clear kb0_1 HB1 hb2
  go_wp2_with fail
  refine (specCanonical_any _ _ _ Op0_2.out.read).mono ?_
  rintro e w3 ⟨Us, ns0, as0, cs0, ns1, as1, cs1, rfl, hos0, hos1, hus, hvs, hb3⟩
  try simp only [size_alloc1] at hus
  have kb0_3 := cell_keep hb3 kb0_2
  have Op0_3 := Lib.hid (Op0_2.out.keep hb3)
  have Os0_3 : Hid (OwnGridU 2 29 w3 Us w3.heap.size (.slice as0 ns0 cs0) E0) := (by have hq := hos0; rw [← HEQ0.out] at hq; exact hq)
  have Os1_3 : Hid (OwnRowU 2 w3 (w2.heap.size) Us (.slice as1 ns1 cs1) E1) := (by have hq := hos1; rw [← HEQ1.out] at hq; exact ⟨hq.1.mono (by first | exact Nat.le_refl _ | simp), hq.2⟩)
  have hz3 : w2.heap.size ≤ w3.heap.size := hb3.size
  have HB3 : Hid (Below w.heap.size w w3) := HB2.out.trans (hb3.mono (by first | omega | (simp; omega)))
  clear kb0_2 Op0_2 HB2 hb3
  have ha4 : Below w3.heap.size w3 (w3.alloc (.cells #[.slice as0 ns0 cs0] 26)) := ((Below.refl _ _).alloc (Nat.le_refl _) _)
  have kb0_3a := cell_keep ha4 kb0_3
  go_wp2_with fail
  clear kb0_3a
  refine (toGraph_any _ _ _ ((h0.keep HB3.out).keep ha4) hsm0).mono ?_
  rintro e w4 ⟨nx0, ax0, cx0, rfl, hox0, hb4⟩
  have kb0_4 := cell_keep hb4 (cell_keep ha4 kb0_3)
  have ks0_4 : w4.cell? ⟨w3.heap.size, 0, none⟩ = some (.slice as0 ns0 cs0) := by rw [hb4.cell (by first | (simp; done) | (simp; omega))]; go_simp
  have Os0_4 := Lib.hid ((Os0_3.out.keep ha4).keep hb4)
  have Os1_4 := Lib.hid ((Os1_3.out.keep ha4).keep hb4)
  have Ox0_4 : Hid (OwnGridU 2 29 w4 (w3.heap.size + 1) w4.heap.size (.slice ax0 nx0 cx0) L0) := (hox0.mono (by first | exact Nat.le_refl _ | simp)).under
  have hz4 : w3.heap.size + 1 ≤ w4.heap.size := by have hq := hb4.size; simpa using hq
  have HB4 : Hid (Below w.heap.size w w4) := (HB3.out.trans (ha4.mono HB3.out.size)).trans (hb4.mono (by first | omega | (simp; omega)))
  clear kb0_3 Os0_3 Os1_3 HB3 ha4 hb4
  have ha5 : Below w4.heap.size w4 (w4.alloc (.cells #[.slice ax0 nx0 cx0] 26)) := ((Below.refl _ _).alloc (Nat.le_refl _) _)
  have kb0_4a := cell_keep ha5 kb0_4
  have ks0_4a := cell_keep ha5 ks0_4
  go_wp2_with fail
  clear kb0_4a ks0_4a
  refine (implCanonical_any _ _ _ (Ox0_4.out.read.keep ha5)).mono ?_
  rintro e w5 ⟨Ug, ng0, ag0, cg0, ng1, ag1, cg1, rfl, hog0, hog1, hug, hvg, hb5⟩
  try simp only [size_alloc1] at hug
  have kb0_5 := cell_keep hb5 (cell_keep ha5 kb0_4)
  have ks0_5 := cell_keep hb5 (cell_keep ha5 ks0_4)
  have kx0_5 : w5.cell? ⟨w4.heap.size, 0, none⟩ = some (.slice ax0 nx0 cx0) := by rw [hb5.cell (by first | (simp; done) | (simp; omega))]; go_simp
  have Os0_5 := Lib.hid ((Os0_4.out.keep ha5).keep hb5)
  have Os1_5 := Lib.hid ((Os1_4.out.keep ha5).keep hb5)
  have Ox0_5 := Lib.hid ((Ox0_4.out.keep ha5).keep hb5)
  have Og0_5 : Hid (OwnGridU 2 29 w5 Ug w5.heap.size (.slice ag0 ng0 cg0) E0) := (by have hq := hog0; rw [← HEQ0.out] at hq; exact hq)
  have Og1_5 : Hid (OwnRowU 2 w5 (w4.heap.size + 1) Ug (.slice ag1 ng1 cg1) E1) := (by have hq := hog1; rw [← HEQ1.out] at hq; exact ⟨hq.1.mono (by first | exact Nat.le_refl _ | simp), hq.2⟩)
  have hz5 : w4.heap.size + 1 ≤ w5.heap.size := by have hq := hb5.size; simpa using hq
  have HB5 : Hid (Below w.heap.size w w5) := (HB4.out.trans (ha5.mono HB4.out.size)).trans (hb5.mono (by first | omega | (simp; omega)))
  clear kb0_4 ks0_4 Os0_4 Os1_4 Ox0_4 HB4 ha5 hb5
  have ha6 : Below w5.heap.size w5 (w5.alloc (.cells #[.slice ag0 ng0 cg0] 26)) := ((Below.refl _ _).alloc (Nat.le_refl _) _)
  have kb0_5a := cell_keep ha6 kb0_5
  have ks0_5a := cell_keep ha6 ks0_5
  have kx0_5a := cell_keep ha6 kx0_5
  go_wp2_with fail
  clear kb0_5a ks0_5a kx0_5a
  refine (eqGraph_any _ _ _ _ _ (Og0_5.out.read.keep ha6) (Os0_5.out.read.keep ha6)).mono ?_
  rintro e w6 ⟨rfl, hb6⟩
  rw [decide_eq_true rfl]
  have kb0_6 := cell_keep hb6 (cell_keep ha6 kb0_5)
  have ks0_6 := cell_keep hb6 (cell_keep ha6 ks0_5)
  have kx0_6 := cell_keep hb6 (cell_keep ha6 kx0_5)
  have kg0_6 : w6.cell? ⟨w5.heap.size, 0, none⟩ = some (.slice ag0 ng0 cg0) := by rw [hb6.cell (by first | (simp; done) | (simp; omega))]; go_simp
  have Os0_6 := Lib.hid ((Os0_5.out.keep ha6).keep hb6)
  have Os1_6 := Lib.hid ((Os1_5.out.keep ha6).keep hb6)
  have Ox0_6 := Lib.hid ((Ox0_5.out.keep ha6).keep hb6)
  have Og0_6 := Lib.hid ((Og0_5.out.keep ha6).keep hb6)
  have Og1_6 := Lib.hid ((Og1_5.out.keep ha6).keep hb6)
  have hz6 : w5.heap.size + 1 ≤ w6.heap.size := by have hq := hb6.size; simpa using hq
  have HB6 : Hid (Below w.heap.size w w6) := (HB5.out.trans (ha6.mono HB5.out.size)).trans (hb6.mono (by first | omega | (simp; omega)))
  clear kb0_5 ks0_5 kx0_5 Os0_5 Os1_5 Ox0_5 Og0_5 Og1_5 HB5 ha6 hb6
  go_wp2_with fail
  refine (eqInt64S_b _ _ _ _ _ Og1_6.out.read Os1_6.out.read).mono ?_
  rintro e w7 ⟨rfl, hb7⟩
  rw [decide_eq_true rfl]
  have kb0_7 := cell_keep hb7 kb0_6
  have ks0_7 := cell_keep hb7 ks0_6
  have kx0_7 := cell_keep hb7 kx0_6
  have kg0_7 := cell_keep hb7 kg0_6
  have Os0_7 := Lib.hid (Os0_6.out.keep hb7)
  have Os1_7 := Lib.hid (Os1_6.out.keep hb7)
  have Ox0_7 := Lib.hid (Ox0_6.out.keep hb7)
  have Og0_7 := Lib.hid (Og0_6.out.keep hb7)
  have Og1_7 := Lib.hid (Og1_6.out.keep hb7)
  have hz7 : w6.heap.size ≤ w7.heap.size := hb7.size
  have HB7 : Hid (Below w.heap.size w w7) := HB6.out.trans (hb7.mono (by first | omega | (simp; omega)))
  clear kb0_6 ks0_6 kx0_6 kg0_6 Os0_6 Os1_6 Ox0_6 Og0_6 Og1_6 HB6 hb7
  go_wp2
  go_region_held3 (fun wx => wx.cell? ⟨w.heap.size, 0, none⟩ = some (.slice a0 L0.length c0) ∧ wx.cell? ⟨w4.heap.size, 0, none⟩ = some (.slice ax0 nx0 cx0)) (first | exact ⟨kb0_7, kx0_7⟩ | exact ⟨kb0_8r1, kx0_8r1⟩ | exact ⟨kb0_8r2, kx0_8r2⟩)
    (first | (go_at_call 19; refine (toGraph_any _ _ _ ((h0.keep HB7.out).keep (Below.refl _ _).drew) hsm0).mono ?_; rintro e w8r1 ⟨ny0, ay0, cy0, rfl, hoy0, hb8r1⟩; have kb0_8r1 := cell_keep hb8r1 (cell_keep (Below.refl _ _).drew kb0_7); have ks0_8r1 := cell_keep hb8r1 (cell_keep (Below.refl _ _).drew ks0_7); have kx0_8r1 := cell_keep hb8r1 (cell_keep (Below.refl _ _).drew kx0_7); have kg0_8r1 := cell_keep hb8r1 (cell_keep (Below.refl _ _).drew kg0_7); have Os0_8r1 := Lib.hid ((Os0_7.out.keep (Below.refl _ _).drew).keep hb8r1); have Os1_8r1 := Lib.hid ((Os1_7.out.keep (Below.refl _ _).drew).keep hb8r1); have Ox0_8r1 := Lib.hid ((Ox0_7.out.keep (Below.refl _ _).drew).keep hb8r1); have Og0_8r1 := Lib.hid ((Og0_7.out.keep (Below.refl _ _).drew).keep hb8r1); have Og1_8r1 := Lib.hid ((Og1_7.out.keep (Below.refl _ _).drew).keep hb8r1); have Oy0_8r1 : Hid (OwnGridU 2 29 w8r1 (w7.heap.size) w8r1.heap.size (.slice ay0 ny0 cy0) L0) := (hoy0.mono (by first | exact Nat.le_refl _ | simp)).under; have hz8r1 : w7.heap.size ≤ w8r1.heap.size := hb8r1.size; have HB8r1 : Hid (Below w.heap.size w w8r1) := HB7.out.drew.trans (hb8r1.mono HB7.out.size); clear hb8r1) | (go_at_call 20; refine (eqGraph_any _ _ _ _ _ Ox0_8r1.out.read Oy0_8r1.out.read).mono ?_; rintro e w8r2 ⟨rfl, hb8r2⟩; have kb0_8r2 := cell_keep hb8r2 kb0_8r1; have ks0_8r2 := cell_keep hb8r2 ks0_8r1; have kx0_8r2 := cell_keep hb8r2 kx0_8r1; have kg0_8r2 := cell_keep hb8r2 kg0_8r1; have Os0_8r2 := Lib.hid (Os0_8r1.out.keep hb8r2); have Os1_8r2 := Lib.hid (Os1_8r1.out.keep hb8r2); have Ox0_8r2 := Lib.hid (Ox0_8r1.out.keep hb8r2); have Og0_8r2 := Lib.hid (Og0_8r1.out.keep hb8r2); have Og1_8r2 := Lib.hid (Og1_8r1.out.keep hb8r2); have Oy0_8r2 := Lib.hid (Oy0_8r1.out.keep hb8r2); have hz8r2 : w8r1.heap.size ≤ w8r2.heap.size := hb8r2.size; have HB8r2 : Hid (Below w.heap.size w w8r2) := HB8r1.out.trans (hb8r2.mono HB8r1.out.size); clear hb8r2; rw [decide_eq_true rfl]))
  clear kb0_7 ks0_7 kx0_7 kg0_7 Os0_7 Os1_7 Ox0_7 Og0_7 Og1_7 HB7 kb0_8r1 ks0_8r1 kx0_8r1 kg0_8r1 Os0_8r1 Os1_8r1 Ox0_8r1 Og0_8r1 Og1_8r1 Oy0_8r1 HB8r1
  have hone : (0 : Int) ≤ 1 := by omega
  have htt0 := totTo_le hsm0.2 L0.length (Nat.le_refl _)
  have htu0 : 1048576 * L0.length ≤ 1048576 * 1048576 := by have := hsm0.1; omega
  go_wp2_with fail
  refine (markGraph_any _ _ (w3.heap.size + 1) w4.heap.size _ _ Ox0_8r2.out (by omega) (by omega) hsm0).mono ?_
  rintro e w9 ⟨rfl, hogx0, hb9⟩
  have kb0_9 := cell_apart kb0_8r2 hb9 (by dsimp only; omega)
  have ks0_9 := cell_apart ks0_8r2 hb9 (by dsimp only; omega)
  have kx0_9 := cell_apart kx0_8r2 hb9 (by dsimp only; omega)
  have kg0_9 := cell_apart kg0_8r2 hb9 (by dsimp only; omega)
  have Os0_9 := Lib.hid (Os0_8r2.out.apart hb9 (by omega))
  have Os1_9 := Lib.hid (Os1_8r2.out.apart hb9 (by omega))
  have Og0_9 := Lib.hid (Og0_8r2.out.apart hb9 (by omega))
  have Og1_9 := Lib.hid (Og1_8r2.out.apart hb9 (by omega))
  have Ox0_9 : Hid (OwnGridU 2 29 w9 (w3.heap.size + 1) w4.heap.size (.slice ax0 nx0 cx0) (marksG L0 (1))) := hogx0
  have hz9 : w8r2.heap.size ≤ w9.heap.size := (hb9.size)
  have HB9 : Hid (Below w.heap.size w w9) := HB8r2.out.trans ((hb9.below (by first | omega | (simp; omega))).mono (by first | omega | (simp; omega)))
  clear kb0_8r2 ks0_8r2 kx0_8r2 kg0_8r2 Os0_8r2 Os1_8r2 Og0_8r2 Og1_8r2 Ox0_8r2 HB8r2 hb9
  have hkpos : 0 ≤ 1 + (totTo L0 L0.length : Int) := by omega
  go_wp2_with fail
  refine (eqGraph_any _ _ _ _ _ Og0_9.out.read Os0_9.out.read).mono ?_
  rintro e w10 ⟨rfl, hb10⟩
  rw [decide_eq_true rfl]
  have kb0_10 := cell_keep hb10 kb0_9
  have ks0_10 := cell_keep hb10 ks0_9
  have kx0_10 := cell_keep hb10 kx0_9
  have kg0_10 := cell_keep hb10 kg0_9
  have Os0_10 := Lib.hid (Os0_9.out.keep hb10)
  have Os1_10 := Lib.hid (Os1_9.out.keep hb10)
  have Og0_10 := Lib.hid (Og0_9.out.keep hb10)
  have Og1_10 := Lib.hid (Og1_9.out.keep hb10)
  have Ox0_10 := Lib.hid (Ox0_9.out.keep hb10)
  have hz10 : w9.heap.size ≤ w10.heap.size := hb10.size
  have HB10 : Hid (Below w.heap.size w w10) := HB9.out.trans (hb10.mono (by first | omega | (simp; omega)))
  clear kb0_9 ks0_9 kx0_9 kg0_9 Os0_9 Os1_9 Og0_9 Og1_9 Ox0_9 HB9 hb10
  go_wp2_with fail
  refine (eqInt64S_b _ _ _ _ _ Og1_10.out.read Os1_10.out.read).mono ?_
  rintro e w11 ⟨rfl, hb11⟩
  rw [decide_eq_true rfl]
  have kb0_11 := cell_keep hb11 kb0_10
  have ks0_11 := cell_keep hb11 ks0_10
  have kx0_11 := cell_keep hb11 kx0_10
  have kg0_11 := cell_keep hb11 kg0_10
  have Os0_11 := Lib.hid (Os0_10.out.keep hb11)
  have Os1_11 := Lib.hid (Os1_10.out.keep hb11)
  have Og0_11 := Lib.hid (Og0_10.out.keep hb11)
  have Og1_11 := Lib.hid (Og1_10.out.keep hb11)
  have Ox0_11 := Lib.hid (Ox0_10.out.keep hb11)
  have hz11 : w10.heap.size ≤ w11.heap.size := hb11.size
  have HB11 : Hid (Below w.heap.size w w11) := HB10.out.trans (hb11.mono (by first | omega | (simp; omega)))
  clear kb0_10 ks0_10 kx0_10 kg0_10 Os0_10 Os1_10 Og0_10 Og1_10 Ox0_10 HB10 hb11
  have hrt0 := totTo_le hsr0.2 E0.length (Nat.le_refl _)
  have hru0 : 1048576 * E0.length ≤ 1048576 * 1048576 := by have := hsr0.1; omega
  go_wp2_with fail
  refine (markGraph_any _ _ Ug w5.heap.size _ _ Og0_11.out (by omega) (by omega) hsr0).mono ?_
  rintro e w12 ⟨rfl, hogg0, hb12⟩
  have kb0_12 := cell_apart kb0_11 hb12 (by dsimp only; omega)
  have ks0_12 := cell_apart ks0_11 hb12 (by dsimp only; omega)
  have kx0_12 := cell_apart kx0_11 hb12 (by dsimp only; omega)
  have kg0_12 := cell_apart kg0_11 hb12 (by dsimp only; omega)
  have Os0_12 := Lib.hid (Os0_11.out.apart hb12 (by omega))
  have Os1_12 := Lib.hid (Os1_11.out.apart hb12 (by omega))
  have Og1_12 := Lib.hid (Og1_11.out.apart hb12 (by omega))
  have Ox0_12 := Lib.hid (Ox0_11.out.apart hb12 (by omega))
  have Og0_12 : Hid (OwnGridU 2 29 w12 Ug w5.heap.size (.slice ag0 ng0 cg0) (marksG E0 (1))) := hogg0
  have hz12 : w11.heap.size ≤ w12.heap.size := (hb12.size)
  have HB12 : Hid (Below w.heap.size w w12) := HB11.out.trans ((hb12.below (by first | omega | (simp; omega))).mono (by first | omega | (simp; omega)))
  clear kb0_11 ks0_11 kx0_11 kg0_11 Os0_11 Os1_11 Og1_11 Ox0_11 Og0_11 HB11 hb12
  go_wp2_with fail
  refine (markInt64S_any _ _ (w4.heap.size + 1) Ug _ _ Og1_12.out (by omega) (by omega)).mono ?_
  rintro e w13 ⟨rfl, hogg1, hb13, _, _⟩
  have kb0_13 := cell_apart kb0_12 hb13 (by dsimp only; omega)
  have ks0_13 := cell_apart ks0_12 hb13 (by dsimp only; omega)
  have kx0_13 := cell_apart kx0_12 hb13 (by dsimp only; omega)
  have kg0_13 := cell_apart kg0_12 hb13 (by dsimp only; omega)
  have Os0_13 := Lib.hid (Os0_12.out.apart hb13 (by omega))
  have Os1_13 := Lib.hid (Os1_12.out.apart hb13 (by omega))
  have Ox0_13 := Lib.hid (Ox0_12.out.apart hb13 (by omega))
  have Og0_13 := Lib.hid (Og0_12.out.apart hb13 (by omega))
  have Og1_13 : Hid (OwnRowU 2 w13 (w4.heap.size + 1) Ug (.slice ag1 ng1 cg1) (seqFrom (1 + (totTo E0 E0.length : Int)) E1.length)) := hogg1
  have hz13 : w12.heap.size ≤ w13.heap.size := (hb13.size)
  have HB13 : Hid (Below w.heap.size w w13) := HB12.out.trans ((hb13.below (by first | omega | (simp; omega))).mono (by first | omega | (simp; omega)))
  clear kb0_12 ks0_12 kx0_12 kg0_12 Os0_12 Os1_12 Ox0_12 Og0_12 Og1_12 HB12 hb13
  have hmpos : 0 ≤ 1 + (totTo E0 E0.length : Int) + (E1.length : Int) := by omega
  have hmne : ((1 + (totTo E0 E0.length : Int) + (E1.length : Int)) != (1 + (totTo E0 E0.length : Int) + (E1.length : Int))) = false := by simp
  go_wp2_with fail
  refine (heldGraph_any _ E0 _ _ Og0_13.out.read (by omega) (by omega) hsr0).mono ?_
  rintro e w14 ⟨rfl, hb14⟩
  have kb0_14 := cell_keep hb14 kb0_13
  have ks0_14 := cell_keep hb14 ks0_13
  have kx0_14 := cell_keep hb14 kx0_13
  have kg0_14 := cell_keep hb14 kg0_13
  have Os0_14 := Lib.hid (Os0_13.out.keep hb14)
  have Os1_14 := Lib.hid (Os1_13.out.keep hb14)
  have Ox0_14 := Lib.hid (Ox0_13.out.keep hb14)
  have Og0_14 := Lib.hid (Og0_13.out.keep hb14)
  have Og1_14 := Lib.hid (Og1_13.out.keep hb14)
  have hz14 : w13.heap.size ≤ w14.heap.size := hb14.size
  have HB14 : Hid (Below w.heap.size w w14) := HB13.out.trans (hb14.mono (by first | omega | (simp; omega)))
  clear kb0_13 ks0_13 kx0_13 kg0_13 Os0_13 Os1_13 Ox0_13 Og0_13 Og1_13 HB13 hb14
  go_wp2_with fail
  refine (heldInt64S_b _ E1.length _ _ Og1_14.out.read (by omega) (by omega)).mono ?_
  rintro e w15 ⟨rfl, hb15⟩
  have kb0_15 := cell_keep hb15 kb0_14
  have ks0_15 := cell_keep hb15 ks0_14
  have kx0_15 := cell_keep hb15 kx0_14
  have kg0_15 := cell_keep hb15 kg0_14
  have Os0_15 := Lib.hid (Os0_14.out.keep hb15)
  have Os1_15 := Lib.hid (Os1_14.out.keep hb15)
  have Ox0_15 := Lib.hid (Ox0_14.out.keep hb15)
  have Og0_15 := Lib.hid (Og0_14.out.keep hb15)
  have Og1_15 := Lib.hid (Og1_14.out.keep hb15)
  have hz15 : w14.heap.size ≤ w15.heap.size := hb15.size
  have HB15 : Hid (Below w.heap.size w w15) := HB14.out.trans (hb15.mono (by first | omega | (simp; omega)))
  clear kb0_14 ks0_14 kx0_14 kg0_14 Os0_14 Os1_14 Ox0_14 Og0_14 Og1_14 HB14 hb15
  go_wp2_with fail
  refine (toGraph_any _ _ _ (h0.keep HB15.out) hsm0).mono ?_
  rintro e w16 ⟨nq0, aq0, cq0, rfl, hoq0, hb16⟩
  have kb0_16 := cell_keep hb16 kb0_15
  have ks0_16 := cell_keep hb16 ks0_15
  have kx0_16 := cell_keep hb16 kx0_15
  have kg0_16 := cell_keep hb16 kg0_15
  have Os0_16 := Lib.hid (Os0_15.out.keep hb16)
  have Os1_16 := Lib.hid (Os1_15.out.keep hb16)
  have Ox0_16 := Lib.hid (Ox0_15.out.keep hb16)
  have Og0_16 := Lib.hid (Og0_15.out.keep hb16)
  have Og1_16 := Lib.hid (Og1_15.out.keep hb16)
  have Oq0_16 : Hid (OwnGridU 2 29 w16 (w15.heap.size) w16.heap.size (.slice aq0 nq0 cq0) L0) := (hoq0.mono (by first | exact Nat.le_refl _ | simp)).under
  have hz16 : w15.heap.size ≤ w16.heap.size := hb16.size
  have HB16 : Hid (Below w.heap.size w w16) := HB15.out.trans (hb16.mono (by first | omega | (simp; omega)))
  clear kb0_15 ks0_15 kx0_15 kg0_15 Os0_15 Os1_15 Ox0_15 Og0_15 Og1_15 HB15 hb16
  go_wp2_with fail
  refine (implCanonical_any _ _ _ Oq0_16.out.read).mono ?_
  rintro e w17 ⟨Uh, nh0, ah0, ch0, nh1, ah1, ch1, rfl, hoh0, hoh1, huh, hvh, hb17⟩
  try simp only [size_alloc1] at huh
  have kb0_17 := cell_keep hb17 kb0_16
  have ks0_17 := cell_keep hb17 ks0_16
  have kx0_17 := cell_keep hb17 kx0_16
  have kg0_17 := cell_keep hb17 kg0_16
  have Os0_17 := Lib.hid (Os0_16.out.keep hb17)
  have Os1_17 := Lib.hid (Os1_16.out.keep hb17)
  have Ox0_17 := Lib.hid (Ox0_16.out.keep hb17)
  have Og0_17 := Lib.hid (Og0_16.out.keep hb17)
  have Og1_17 := Lib.hid (Og1_16.out.keep hb17)
  have Oq0_17 := Lib.hid (Oq0_16.out.keep hb17)
  have Oh0_17 : Hid (OwnGridU 2 29 w17 Uh w17.heap.size (.slice ah0 nh0 ch0) E0) := (by have hq := hoh0; rw [← HEQ0.out] at hq; exact hq)
  have Oh1_17 : Hid (OwnRowU 2 w17 (w16.heap.size) Uh (.slice ah1 nh1 ch1) E1) := (by have hq := hoh1; rw [← HEQ1.out] at hq; exact ⟨hq.1.mono (by first | exact Nat.le_refl _ | simp), hq.2⟩)
  have hz17 : w16.heap.size ≤ w17.heap.size := hb17.size
  have HB17 : Hid (Below w.heap.size w w17) := HB16.out.trans (hb17.mono (by first | omega | (simp; omega)))
  clear kb0_16 ks0_16 kx0_16 kg0_16 Os0_16 Os1_16 Ox0_16 Og0_16 Og1_16 Oq0_16 HB16 hb17
  have ha18 : Below w17.heap.size w17 (w17.alloc (.cells #[.slice ah0 nh0 ch0] 26)) := ((Below.refl _ _).alloc (Nat.le_refl _) _)
  have kb0_17a := cell_keep ha18 kb0_17
  have ks0_17a := cell_keep ha18 ks0_17
  have kx0_17a := cell_keep ha18 kx0_17
  have kg0_17a := cell_keep ha18 kg0_17
  go_wp2_with fail
  clear kb0_17a ks0_17a kx0_17a kg0_17a
  refine (eqGraph_any _ _ _ _ _ (Oh0_17.out.read.keep ha18) (Os0_17.out.read.keep ha18)).mono ?_
  rintro e w18 ⟨rfl, hb18⟩
  rw [decide_eq_true rfl]
  have kb0_18 := cell_keep hb18 (cell_keep ha18 kb0_17)
  have ks0_18 := cell_keep hb18 (cell_keep ha18 ks0_17)
  have kx0_18 := cell_keep hb18 (cell_keep ha18 kx0_17)
  have kg0_18 := cell_keep hb18 (cell_keep ha18 kg0_17)
  have kh0_18 : w18.cell? ⟨w17.heap.size, 0, none⟩ = some (.slice ah0 nh0 ch0) := by rw [hb18.cell (by first | (simp; done) | (simp; omega))]; go_simp
  have Os0_18 := Lib.hid ((Os0_17.out.keep ha18).keep hb18)
  have Os1_18 := Lib.hid ((Os1_17.out.keep ha18).keep hb18)
  have Ox0_18 := Lib.hid ((Ox0_17.out.keep ha18).keep hb18)
  have Og0_18 := Lib.hid ((Og0_17.out.keep ha18).keep hb18)
  have Og1_18 := Lib.hid ((Og1_17.out.keep ha18).keep hb18)
  have Oh0_18 := Lib.hid ((Oh0_17.out.keep ha18).keep hb18)
  have Oh1_18 := Lib.hid ((Oh1_17.out.keep ha18).keep hb18)
  have hz18 : w17.heap.size + 1 ≤ w18.heap.size := by have hq := hb18.size; simpa using hq
  have HB18 : Hid (Below w.heap.size w w18) := (HB17.out.trans (ha18.mono HB17.out.size)).trans (hb18.mono (by first | omega | (simp; omega)))
  clear kb0_17 ks0_17 kx0_17 kg0_17 Os0_17 Os1_17 Ox0_17 Og0_17 Og1_17 Oh0_17 Oh1_17 HB17 ha18 hb18
  go_wp2_with fail
  refine (eqInt64S_b _ _ _ _ _ Oh1_18.out.read Os1_18.out.read).mono ?_
  rintro e w19 ⟨rfl, hb19⟩
  rw [decide_eq_true rfl]
  have kb0_19 := cell_keep hb19 kb0_18
  have ks0_19 := cell_keep hb19 ks0_18
  have kx0_19 := cell_keep hb19 kx0_18
  have kg0_19 := cell_keep hb19 kg0_18
  have kh0_19 := cell_keep hb19 kh0_18
  have Os0_19 := Lib.hid (Os0_18.out.keep hb19)
  have Os1_19 := Lib.hid (Os1_18.out.keep hb19)
  have Ox0_19 := Lib.hid (Ox0_18.out.keep hb19)
  have Og0_19 := Lib.hid (Og0_18.out.keep hb19)
  have Og1_19 := Lib.hid (Og1_18.out.keep hb19)
  have Oh0_19 := Lib.hid (Oh0_18.out.keep hb19)
  have Oh1_19 := Lib.hid (Oh1_18.out.keep hb19)
  have hz19 : w18.heap.size ≤ w19.heap.size := hb19.size
  have HB19 : Hid (Below w.heap.size w w19) := HB18.out.trans (hb19.mono (by first | omega | (simp; omega)))
  clear kb0_18 ks0_18 kx0_18 kg0_18 kh0_18 Os0_18 Os1_18 Ox0_18 Og0_18 Og1_18 Oh0_18 Oh1_18 HB18 hb19
  go_wp2_with fail
  refine (heldGraph_any _ E0 _ _ Og0_19.out.read (by omega) (by omega) hsr0).mono ?_
  rintro e w20 ⟨rfl, hb20⟩
  have kb0_20 := cell_keep hb20 kb0_19
  have ks0_20 := cell_keep hb20 ks0_19
  have kx0_20 := cell_keep hb20 kx0_19
  have kg0_20 := cell_keep hb20 kg0_19
  have kh0_20 := cell_keep hb20 kh0_19
  have Os0_20 := Lib.hid (Os0_19.out.keep hb20)
  have Os1_20 := Lib.hid (Os1_19.out.keep hb20)
  have Ox0_20 := Lib.hid (Ox0_19.out.keep hb20)
  have Og0_20 := Lib.hid (Og0_19.out.keep hb20)
  have Og1_20 := Lib.hid (Og1_19.out.keep hb20)
  have Oh0_20 := Lib.hid (Oh0_19.out.keep hb20)
  have Oh1_20 := Lib.hid (Oh1_19.out.keep hb20)
  have hz20 : w19.heap.size ≤ w20.heap.size := hb20.size
  have HB20 : Hid (Below w.heap.size w w20) := HB19.out.trans (hb20.mono (by first | omega | (simp; omega)))
  clear kb0_19 ks0_19 kx0_19 kg0_19 kh0_19 Os0_19 Os1_19 Ox0_19 Og0_19 Og1_19 Oh0_19 Oh1_19 HB19 hb20
  go_wp2_with fail
  refine (heldInt64S_b _ E1.length _ _ Og1_20.out.read (by omega) (by omega)).mono ?_
  rintro e w21 ⟨rfl, hb21⟩
  have kb0_21 := cell_keep hb21 kb0_20
  have ks0_21 := cell_keep hb21 ks0_20
  have kx0_21 := cell_keep hb21 kx0_20
  have kg0_21 := cell_keep hb21 kg0_20
  have kh0_21 := cell_keep hb21 kh0_20
  have Os0_21 := Lib.hid (Os0_20.out.keep hb21)
  have Os1_21 := Lib.hid (Os1_20.out.keep hb21)
  have Ox0_21 := Lib.hid (Ox0_20.out.keep hb21)
  have Og0_21 := Lib.hid (Og0_20.out.keep hb21)
  have Og1_21 := Lib.hid (Og1_20.out.keep hb21)
  have Oh0_21 := Lib.hid (Oh0_20.out.keep hb21)
  have Oh1_21 := Lib.hid (Oh1_20.out.keep hb21)
  have hz21 : w20.heap.size ≤ w21.heap.size := hb21.size
  have HB21 : Hid (Below w.heap.size w w21) := HB20.out.trans (hb21.mono (by first | omega | (simp; omega)))
  clear kb0_20 ks0_20 kx0_20 kg0_20 kh0_20 Os0_20 Os1_20 Ox0_20 Og0_20 Og1_20 Oh0_20 Oh1_20 HB20 hb21
  go_wp2
  go_ret
  exact ⟨rfl, HB21.out⟩

end Go.Proofs.Ytgeifbgjfbfcfaa
