/- The walk of the law FnExactDecompBy, written by program (tools/lawgen3.py) out of the contracts. -/
import Derived.Test.YtohjfcfcopbmoaaDB8
import Derived.Test.YtohjfcfcopbmoaaQF6
import Derived.Deep.RegionHeld3

namespace Go.Proofs.Ytohjfcfcopbmoaa
open Go.RowKit

theorem decBL_small (L : List (List Int)) (xs : List Int) : Small (decBL L xs) := by
  unfold decBL
  by_cases h : orderB L xs = true
  · obtain ⟨_, hO, _, h16⟩ := orderB_yes h
    rw [if_pos h]
    refine ⟨by rw [dbB_len]; omega, fun i hi => ?_⟩
    rw [dbB_len] at hi
    rw [show nthR (dbB L xs xs.length) i = listM (pm (dbS L xs i) ||| 2 ^ vtxN xs i) by simp [dbB, nthR, hi]]
    have := listM_len (pm (dbS L xs i) ||| 2 ^ vtxN xs i)
    omega
  · rw [if_neg h]
    exact ⟨by simp, fun i hi => absurd hi (by simp)⟩
theorem decKL_small (L : List (List Int)) (xs : List Int) : Small (decKL L xs) := by
  unfold decKL
  by_cases h : orderB L xs = true
  · obtain ⟨_, hO, _, h16⟩ := orderB_yes h
    rw [if_pos h]
    refine ⟨by rw [dbK_len]; omega, fun i hi => ?_⟩
    rw [dbK_len] at hi
    have hi2 : i < xs.length - 1 := by omega
    have e : nthR (dbK L xs xs.length) i = [(i : Int), (dbTo L xs i : Int)] := by simp [dbK, nthR, hi2]
    rw [e]
    simp
  · rw [if_neg h]
    exact ⟨by simp, fun i hi => absurd hi (by simp)⟩

set_option maxHeartbeats 8000000 in
set_option maxRecDepth 100000 in
theorem lawDecompBy (v0 : Value) (L0 : List (List Int)) (v1 : Value) (L1 : List Int) (w : World) (h0 : GridAt w v0 L0) (h1 : RowAt w v1 L1) :
    Calls Try.prog 4 #[.agg #[v0], v1] w fun e w' => e = .returned (.bool true) ∧ Below w.heap.size w w' := by
  obtain ⟨a0, c0, rfl⟩ := h0.slice
  obtain ⟨a1, c1, rfl⟩ := h1.slice
  have hl1 := h1.len
  unfold maxLen at hl1
  by_cases hr1 : (1048576 : Int) < (L1.length : Int)
  · go_enter Try.func4, Try.ntmps4
    go_wp2
    go_ret
    exact ⟨rfl, (Below.refl _ _).alloc (by first | (simp; done) | (simp; omega)) _⟩
  have hr1' : L1.length ≤ 1048576 := by omega
  have hsr0 := decBL_small L0 L1
  have hsr1 := decKL_small L0 L1
  obtain ⟨E0, hE0⟩ : ∃ x, x = decBL L0 L1 := ⟨_, rfl⟩
  rw [← hE0] at hsr0
  have HEQ0 := Lib.hid hE0
  clear hE0
  obtain ⟨E1, hE1⟩ : ∃ x, x = decKL L0 L1 := ⟨_, rfl⟩
  rw [← hE1] at hsr1
  have HEQ1 := Lib.hid hE1
  clear hE1
  obtain ⟨E2, hE2⟩ : ∃ x, x = orderB L0 L1 := ⟨_, rfl⟩
  have HEQ2 := Lib.hid hE2
  clear hE2
  go_enter Try.func4, Try.ntmps4
  have ha1 : Below w.heap.size w (w.alloc (.cells #[.slice a0 L0.length c0] 32)) := ((Below.refl _ _).alloc (Nat.le_refl _) _)
  go_wp2_with fail
  refine (szGraph_any _ _ _ _ (h0.keep ha1) (by omega) (by omega)).mono ?_
  rintro e w1 ⟨rfl, hb1⟩
  have kb0_1 : w1.cell? ⟨w.heap.size, 0, none⟩ = some (.slice a0 L0.length c0) := by rw [hb1.cell (by first | (simp; done) | (simp; omega))]; go_simp
  have hz1 : w.heap.size + 1 ≤ w1.heap.size := by have hq := hb1.size; simpa using hq
  have HB1 : Hid (Below w.heap.size w w1) := ha1.trans (hb1.mono (by first | (simp; done) | (simp; omega)))
  clear ha1 hb1
  by_cases hs0 : szGrid L0 1048576 < 0
  · go_wp2
    go_ret
    exact ⟨rfl, HB1.out⟩
  have hsm0 := (szGrid_small (L := L0) (left := 1048576) (by omega) (by omega)).1
  have hle0 := (szGrid_small (L := L0) (left := 1048576) (by omega) (by omega)).2
  go_wp2_with fail
  refine (toGraph_any _ _ _ (h0.keep HB1.out) hsm0).mono ?_
  rintro e w2 ⟨np0, ap0, cp0, rfl, hop0, hb2⟩
  have kb0_2 := cell_keep hb2 kb0_1
  have Op0_2 : Hid (OwnGridU 2 33 w2 (w1.heap.size) w2.heap.size (.slice ap0 np0 cp0) L0) := (hop0.mono (by first | exact Nat.le_refl _ | simp)).under
  have hz2 : w1.heap.size ≤ w2.heap.size := hb2.size
  have HB2 : Hid (Below w.heap.size w w2) := HB1.out.trans (hb2.mono (by first | omega | (simp; omega)))
  clear kb0_1 HB1 hb2
  go_wp2_with fail
  refine (toInt64S_gave _ _ _ (h1.keep HB2.out) hr1').mono ?_
  rintro e w3 ⟨np1, ap1, cp1, rfl, hop1, hb3⟩
  have kb0_3 := cell_keep hb3 kb0_2
  have Op0_3 := Lib.hid (Op0_2.out.keep hb3)
  have Op1_3 : Hid (OwnRowU 2 w3 (w2.heap.size) w3.heap.size (.slice ap1 np1 cp1) L1) := (hop1.mono (by first | exact Nat.le_refl _ | simp)).under
  have hz3 : w2.heap.size ≤ w3.heap.size := hb3.size
  have HB3 : Hid (Below w.heap.size w w3) := HB2.out.trans (hb3.mono (by first | omega | (simp; omega)))
  clear kb0_2 Op0_2 HB2 hb3
  go_wp2_with fail
  refine (specDecompBy_any _ _ _ _ _ Op0_3.out.read Op1_3.out.read).mono ?_
  rintro e w4 ⟨ns0, as0, cs0, ns1, as1, cs1, rfl, hos0, hos1, hb4⟩
  rw [← HEQ2.out]
  have kb0_4 := cell_keep hb4 kb0_3
  have Op0_4 := Lib.hid (Op0_3.out.keep hb4)
  have Op1_4 := Lib.hid (Op1_3.out.keep hb4)
  have Os0_4 : Hid (OwnGridU 2 33 w4 (w3.heap.size) w4.heap.size (.slice as0 ns0 cs0) E0) := (by have hq := hos0; rw [← HEQ0.out] at hq; exact (hq.mono (by first | exact Nat.le_refl _ | simp)).under)
  have Os1_4 : Hid (OwnGridU 2 33 w4 (w3.heap.size) w4.heap.size (.slice as1 ns1 cs1) E1) := (by have hq := hos1; rw [← HEQ1.out] at hq; exact (hq.mono (by first | exact Nat.le_refl _ | simp)).under)
  have hz4 : w3.heap.size ≤ w4.heap.size := hb4.size
  have HB4 : Hid (Below w.heap.size w w4) := HB3.out.trans (hb4.mono (by first | omega | (simp; omega)))
  clear kb0_3 Op0_3 Op1_3 HB3 hb4
  have ha5 : Below w4.heap.size w4 (w4.alloc (.cells #[.slice as0 ns0 cs0, .slice as1 ns1 cs1] 27)) := ((Below.refl _ _).alloc (Nat.le_refl _) _)
  have kb0_4a := cell_keep ha5 kb0_4
  go_wp2_with fail
  clear kb0_4a
  refine (toGraph_any _ _ _ ((h0.keep HB4.out).keep ha5) hsm0).mono ?_
  rintro e w5 ⟨nx0, ax0, cx0, rfl, hox0, hb5⟩
  have kb0_5 := cell_keep hb5 (cell_keep ha5 kb0_4)
  have ksc0_5 : w5.cell? ⟨w4.heap.size, 0, none⟩ = some (.slice as0 ns0 cs0) := ((Box2.new w4 (.slice as0 ns0 cs0) (.slice as1 ns1 cs1) 27).keep hb5).c0
  have ksc1_5 : w5.cell? ⟨w4.heap.size, 1, none⟩ = some (.slice as1 ns1 cs1) := ((Box2.new w4 (.slice as0 ns0 cs0) (.slice as1 ns1 cs1) 27).keep hb5).c1
  have Os0_5 := Lib.hid ((Os0_4.out.keep ha5).keep hb5)
  have Os1_5 := Lib.hid ((Os1_4.out.keep ha5).keep hb5)
  have Ox0_5 : Hid (OwnGridU 2 33 w5 (w4.heap.size + 1) w5.heap.size (.slice ax0 nx0 cx0) L0) := (hox0.mono (by first | exact Nat.le_refl _ | simp)).under
  have hz5 : w4.heap.size + 1 ≤ w5.heap.size := by have hq := hb5.size; simpa using hq
  have HB5 : Hid (Below w.heap.size w w5) := (HB4.out.trans (ha5.mono HB4.out.size)).trans (hb5.mono (by first | omega | (simp; omega)))
  clear kb0_4 Os0_4 Os1_4 HB4 ha5 hb5
  have ha6 : Below w5.heap.size w5 (w5.alloc (.cells #[.slice ax0 nx0 cx0] 37)) := ((Below.refl _ _).alloc (Nat.le_refl _) _)
  have kb0_5a := cell_keep ha6 kb0_5
  have ksc0_5a := cell_keep ha6 ksc0_5
  have ksc1_5a := cell_keep ha6 ksc1_5
  go_wp2_with fail
  clear kb0_5a ksc0_5a ksc1_5a
  refine (toInt64S_gave _ _ _ ((h1.keep HB5.out).keep ha6) hr1').mono ?_
  rintro e w6 ⟨nx1, ax1, cx1, rfl, hox1, hb6⟩
  have kb0_6 := cell_keep hb6 (cell_keep ha6 kb0_5)
  have ksc0_6 := cell_keep hb6 (cell_keep ha6 ksc0_5)
  have ksc1_6 := cell_keep hb6 (cell_keep ha6 ksc1_5)
  have kx0_6 : w6.cell? ⟨w5.heap.size, 0, none⟩ = some (.slice ax0 nx0 cx0) := by rw [hb6.cell (by first | (simp; done) | (simp; omega))]; go_simp
  have Os0_6 := Lib.hid ((Os0_5.out.keep ha6).keep hb6)
  have Os1_6 := Lib.hid ((Os1_5.out.keep ha6).keep hb6)
  have Ox0_6 := Lib.hid ((Ox0_5.out.keep ha6).keep hb6)
  have Ox1_6 : Hid (OwnRowU 2 w6 (w5.heap.size + 1) w6.heap.size (.slice ax1 nx1 cx1) L1) := (hox1.mono (by first | exact Nat.le_refl _ | simp)).under
  have hz6 : w5.heap.size + 1 ≤ w6.heap.size := by have hq := hb6.size; simpa using hq
  have HB6 : Hid (Below w.heap.size w w6) := (HB5.out.trans (ha6.mono HB5.out.size)).trans (hb6.mono (by first | omega | (simp; omega)))
  clear kb0_5 ksc0_5 ksc1_5 Os0_5 Os1_5 Ox0_5 HB5 ha6 hb6
  go_wp2_with fail
  refine (implDecompBy_any _ _ _ _ _ Ox0_6.out.read Ox1_6.out.read).mono ?_
  rintro e w7 ⟨ng0, ag0, cg0, ng1, ag1, cg1, Rg, Sg, rfl, hpg, hb7⟩
  rw [← HEQ2.out]
  have kb0_7 := cell_keep hb7 kb0_6
  have ksc0_7 := cell_keep hb7 ksc0_6
  have ksc1_7 := cell_keep hb7 ksc1_6
  have kx0_7 := cell_keep hb7 kx0_6
  have Os0_7 := Lib.hid (Os0_6.out.keep hb7)
  have Os1_7 := Lib.hid (Os1_6.out.keep hb7)
  have Ox0_7 := Lib.hid (Ox0_6.out.keep hb7)
  have Ox1_7 := Lib.hid (Ox1_6.out.keep hb7)
  have Og_7 : Hid (PairBy 2 33 w7 (w6.heap.size) (.slice ag0 ng0 cg0) (.slice ag1 ng1 cg1) E0 E1 Rg Sg) := (by have hq := hpg; rw [← HEQ0.out, ← HEQ1.out] at hq; exact hq)
  have hz7 : w6.heap.size ≤ w7.heap.size := hb7.size
  have HB7 : Hid (Below w.heap.size w w7) := HB6.out.trans (hb7.mono (by first | omega | (simp; omega)))
  clear kb0_6 ksc0_6 ksc1_6 kx0_6 Os0_6 Os1_6 Ox0_6 Ox1_6 HB6 hb7
  have HRU : Hid ((∀ i z, i < E0.length → (Rg i).ownBlock = some z → z < w7.heap.size) ∧ ∀ i z, i < E1.length → (Sg i).ownBlock = some z → z < w7.heap.size) := ⟨fun i z hi hz => ((Og_7.out.one.rows i hi).lt z hz).2, fun i z hi hz => ((Og_7.out.two.rows i hi).lt z hz).2⟩
  have ha8 : Below w7.heap.size w7 (w7.alloc (.cells #[.slice ag0 ng0 cg0, .slice ag1 ng1 cg1] 27)) := ((Below.refl _ _).alloc (Nat.le_refl _) _)
  have kb0_7a := cell_keep ha8 kb0_7
  have ksc0_7a := cell_keep ha8 ksc0_7
  have ksc1_7a := cell_keep ha8 ksc1_7
  have kx0_7a := cell_keep ha8 kx0_7
  go_wp2_with fail
  clear kb0_7a ksc0_7a ksc1_7a kx0_7a
  refine (eqDecomp_any _ _ _ _ _ _ _ _ _ (Og_7.out.one.grid.grid.keep ha8) (Og_7.out.two.grid.grid.keep ha8) (Os0_7.out.read.keep ha8) (Os1_7.out.read.keep ha8)).mono ?_
  rintro e w8 ⟨rfl, hb8⟩
  rw [decide_eq_true ⟨rfl, rfl⟩]
  have kb0_8 := cell_keep hb8 (cell_keep ha8 kb0_7)
  have ksc0_8 := cell_keep hb8 (cell_keep ha8 ksc0_7)
  have ksc1_8 := cell_keep hb8 (cell_keep ha8 ksc1_7)
  have kx0_8 := cell_keep hb8 (cell_keep ha8 kx0_7)
  have kgc0_8 : w8.cell? ⟨w7.heap.size, 0, none⟩ = some (.slice ag0 ng0 cg0) := ((Box2.new w7 (.slice ag0 ng0 cg0) (.slice ag1 ng1 cg1) 27).keep hb8).c0
  have kgc1_8 : w8.cell? ⟨w7.heap.size, 1, none⟩ = some (.slice ag1 ng1 cg1) := ((Box2.new w7 (.slice ag0 ng0 cg0) (.slice ag1 ng1 cg1) 27).keep hb8).c1
  have Os0_8 := Lib.hid ((Os0_7.out.keep ha8).keep hb8)
  have Os1_8 := Lib.hid ((Os1_7.out.keep ha8).keep hb8)
  have Ox0_8 := Lib.hid ((Ox0_7.out.keep ha8).keep hb8)
  have Ox1_8 := Lib.hid ((Ox1_7.out.keep ha8).keep hb8)
  have Og_8 := Lib.hid ((Og_7.out.keep ha8).keep hb8)
  have hz8 : w7.heap.size + 1 ≤ w8.heap.size := by have hq := hb8.size; simpa using hq
  have HB8 : Hid (Below w.heap.size w w8) := (HB7.out.trans (ha8.mono HB7.out.size)).trans (hb8.mono (by first | omega | (simp; omega)))
  clear kb0_7 ksc0_7 ksc1_7 kx0_7 Os0_7 Os1_7 Ox0_7 Ox1_7 Og_7 HB7 ha8 hb8
  go_wp2
  go_region_held3 (fun wx => wx.cell? ⟨w.heap.size, 0, none⟩ = some (.slice a0 L0.length c0) ∧ wx.cell? ⟨w5.heap.size, 0, none⟩ = some (.slice ax0 nx0 cx0)) (first | exact ⟨kb0_8, kx0_8⟩ | exact ⟨kb0_9r1, kx0_9r1⟩ | exact ⟨kb0_9r2, kx0_9r2⟩)
    (first | (go_at_call 14; refine (toGraph_any _ _ _ ((h0.keep HB8.out).keep (Below.refl _ _).drew) hsm0).mono ?_; rintro e w9r1 ⟨ny0, ay0, cy0, rfl, hoy0, hb9r1⟩; have kb0_9r1 := cell_keep hb9r1 (cell_keep (Below.refl _ _).drew kb0_8); have ksc0_9r1 := cell_keep hb9r1 (cell_keep (Below.refl _ _).drew ksc0_8); have ksc1_9r1 := cell_keep hb9r1 (cell_keep (Below.refl _ _).drew ksc1_8); have kx0_9r1 := cell_keep hb9r1 (cell_keep (Below.refl _ _).drew kx0_8); have kgc0_9r1 := cell_keep hb9r1 (cell_keep (Below.refl _ _).drew kgc0_8); have kgc1_9r1 := cell_keep hb9r1 (cell_keep (Below.refl _ _).drew kgc1_8); have Os0_9r1 := Lib.hid ((Os0_8.out.keep (Below.refl _ _).drew).keep hb9r1); have Os1_9r1 := Lib.hid ((Os1_8.out.keep (Below.refl _ _).drew).keep hb9r1); have Ox0_9r1 := Lib.hid ((Ox0_8.out.keep (Below.refl _ _).drew).keep hb9r1); have Ox1_9r1 := Lib.hid ((Ox1_8.out.keep (Below.refl _ _).drew).keep hb9r1); have Og_9r1 := Lib.hid ((Og_8.out.keep (Below.refl _ _).drew).keep hb9r1); have Oy0_9r1 : Hid (OwnGridU 2 33 w9r1 (w8.heap.size) w9r1.heap.size (.slice ay0 ny0 cy0) L0) := (hoy0.mono (by first | exact Nat.le_refl _ | simp)).under; have hz9r1 : w8.heap.size ≤ w9r1.heap.size := hb9r1.size; have HB9r1 : Hid (Below w.heap.size w w9r1) := HB8.out.drew.trans (hb9r1.mono HB8.out.size); clear hb9r1) | (go_at_call 17; refine (eqGraph_any _ _ _ _ _ Ox0_9r1.out.read Oy0_9r1.out.read).mono ?_; rintro e w9r2 ⟨rfl, hb9r2⟩; have kb0_9r2 := cell_keep hb9r2 kb0_9r1; have ksc0_9r2 := cell_keep hb9r2 ksc0_9r1; have ksc1_9r2 := cell_keep hb9r2 ksc1_9r1; have kx0_9r2 := cell_keep hb9r2 kx0_9r1; have kgc0_9r2 := cell_keep hb9r2 kgc0_9r1; have kgc1_9r2 := cell_keep hb9r2 kgc1_9r1; have Os0_9r2 := Lib.hid (Os0_9r1.out.keep hb9r2); have Os1_9r2 := Lib.hid (Os1_9r1.out.keep hb9r2); have Ox0_9r2 := Lib.hid (Ox0_9r1.out.keep hb9r2); have Ox1_9r2 := Lib.hid (Ox1_9r1.out.keep hb9r2); have Og_9r2 := Lib.hid (Og_9r1.out.keep hb9r2); have Oy0_9r2 := Lib.hid (Oy0_9r1.out.keep hb9r2); have hz9r2 : w9r1.heap.size ≤ w9r2.heap.size := hb9r2.size; have HB9r2 : Hid (Below w.heap.size w w9r2) := HB9r1.out.trans (hb9r2.mono HB9r1.out.size); clear hb9r2; rw [decide_eq_true rfl]))
  clear kb0_8 ksc0_8 ksc1_8 kx0_8 kgc0_8 kgc1_8 Os0_8 Os1_8 Ox0_8 Ox1_8 Og_8 HB8 kb0_9r1 ksc0_9r1 ksc1_9r1 kx0_9r1 kgc0_9r1 kgc1_9r1 Os0_9r1 Os1_9r1 Ox0_9r1 Ox1_9r1 Og_9r1 Oy0_9r1 HB9r1
  go_wp2_with fail
  refine (toInt64S_gave _ _ _ (h1.keep HB9r2.out) hr1').mono ?_
  rintro e w10 ⟨ny1, ay1, cy1, rfl, hoy1, hb10⟩
  have kb0_10 := cell_keep hb10 kb0_9r2
  have ksc0_10 := cell_keep hb10 ksc0_9r2
  have ksc1_10 := cell_keep hb10 ksc1_9r2
  have kx0_10 := cell_keep hb10 kx0_9r2
  have kgc0_10 := cell_keep hb10 kgc0_9r2
  have kgc1_10 := cell_keep hb10 kgc1_9r2
  have Os0_10 := Lib.hid (Os0_9r2.out.keep hb10)
  have Os1_10 := Lib.hid (Os1_9r2.out.keep hb10)
  have Ox0_10 := Lib.hid (Ox0_9r2.out.keep hb10)
  have Ox1_10 := Lib.hid (Ox1_9r2.out.keep hb10)
  have Og_10 := Lib.hid (Og_9r2.out.keep hb10)
  have Oy1_10 : Hid (OwnRowU 2 w10 (w9r2.heap.size) w10.heap.size (.slice ay1 ny1 cy1) L1) := (hoy1.mono (by first | exact Nat.le_refl _ | simp)).under
  have hz10 : w9r2.heap.size ≤ w10.heap.size := hb10.size
  have HB10 : Hid (Below w.heap.size w w10) := HB9r2.out.trans (hb10.mono (by first | omega | (simp; omega)))
  clear kb0_9r2 ksc0_9r2 ksc1_9r2 kx0_9r2 kgc0_9r2 kgc1_9r2 Os0_9r2 Os1_9r2 Ox0_9r2 Ox1_9r2 Og_9r2 HB9r2 hb10
  go_wp2_with fail
  refine (eqInt64S_b _ _ _ _ _ Ox1_10.out.read Oy1_10.out.read).mono ?_
  rintro e w11 ⟨rfl, hb11⟩
  rw [decide_eq_true rfl]
  have kb0_11 := cell_keep hb11 kb0_10
  have ksc0_11 := cell_keep hb11 ksc0_10
  have ksc1_11 := cell_keep hb11 ksc1_10
  have kx0_11 := cell_keep hb11 kx0_10
  have kgc0_11 := cell_keep hb11 kgc0_10
  have kgc1_11 := cell_keep hb11 kgc1_10
  have Os0_11 := Lib.hid (Os0_10.out.keep hb11)
  have Os1_11 := Lib.hid (Os1_10.out.keep hb11)
  have Ox0_11 := Lib.hid (Ox0_10.out.keep hb11)
  have Ox1_11 := Lib.hid (Ox1_10.out.keep hb11)
  have Og_11 := Lib.hid (Og_10.out.keep hb11)
  have Oy1_11 := Lib.hid (Oy1_10.out.keep hb11)
  have hz11 : w10.heap.size ≤ w11.heap.size := hb11.size
  have HB11 : Hid (Below w.heap.size w w11) := HB10.out.trans (hb11.mono (by first | omega | (simp; omega)))
  clear kb0_10 ksc0_10 ksc1_10 kx0_10 kgc0_10 kgc1_10 Os0_10 Os1_10 Ox0_10 Ox1_10 Og_10 Oy1_10 HB10 hb11
  have hone : (0 : Int) ≤ 1 := by omega
  have htt0 := totTo_le hsm0.2 L0.length (Nat.le_refl _)
  have htu0 : 1048576 * L0.length ≤ 1048576 * 1048576 := by have := hsm0.1; omega
  go_wp2_with fail
  refine (markGraph_any _ _ (w4.heap.size + 1) w5.heap.size _ _ Ox0_11.out (by omega) (by omega) hsm0).mono ?_
  rintro e w12 ⟨rfl, hogx0, hb12⟩
  have kb0_12 := cell_apart kb0_11 hb12 (by dsimp only; omega)
  have ksc0_12 := cell_apart ksc0_11 hb12 (by dsimp only; omega)
  have ksc1_12 := cell_apart ksc1_11 hb12 (by dsimp only; omega)
  have kx0_12 := cell_apart kx0_11 hb12 (by dsimp only; omega)
  have kgc0_12 := cell_apart kgc0_11 hb12 (by dsimp only; omega)
  have kgc1_12 := cell_apart kgc1_11 hb12 (by dsimp only; omega)
  have Os0_12 := Lib.hid (Os0_11.out.apart hb12 (by omega))
  have Os1_12 := Lib.hid (Os1_11.out.apart hb12 (by omega))
  have Ox1_12 := Lib.hid (Ox1_11.out.apart hb12 (by omega))
  have Og_12 := Lib.hid (Og_11.out.low hb12 (by omega))
  have Ox0_12 : Hid (OwnGridU 2 33 w12 (w4.heap.size + 1) w5.heap.size (.slice ax0 nx0 cx0) (marksG L0 (1))) := hogx0
  have hz12 : w11.heap.size ≤ w12.heap.size := (hb12.size)
  have HB12 : Hid (Below w.heap.size w w12) := HB11.out.trans ((hb12.below (by first | omega | (simp; omega))).mono (by first | omega | (simp; omega)))
  clear kb0_11 ksc0_11 ksc1_11 kx0_11 kgc0_11 kgc1_11 Os0_11 Os1_11 Ox1_11 Og_11 Ox0_11 HB11 hb12
  go_wp2_with fail
  refine (markInt64S_any _ _ (w5.heap.size + 1) w6.heap.size _ _ Ox1_12.out (by omega) (by omega)).mono ?_
  rintro e w13 ⟨rfl, hogx1, hb13, _, _⟩
  have kb0_13 := cell_apart kb0_12 hb13 (by dsimp only; omega)
  have ksc0_13 := cell_apart ksc0_12 hb13 (by dsimp only; omega)
  have ksc1_13 := cell_apart ksc1_12 hb13 (by dsimp only; omega)
  have kx0_13 := cell_apart kx0_12 hb13 (by dsimp only; omega)
  have kgc0_13 := cell_apart kgc0_12 hb13 (by dsimp only; omega)
  have kgc1_13 := cell_apart kgc1_12 hb13 (by dsimp only; omega)
  have Os0_13 := Lib.hid (Os0_12.out.apart hb13 (by omega))
  have Os1_13 := Lib.hid (Os1_12.out.apart hb13 (by omega))
  have Og_13 := Lib.hid (Og_12.out.low hb13 (by omega))
  have Ox0_13 := Lib.hid (Ox0_12.out.apart hb13 (by omega))
  have Ox1_13 : Hid (OwnRowU 2 w13 (w5.heap.size + 1) w6.heap.size (.slice ax1 nx1 cx1) (seqFrom (1 + (totTo L0 L0.length : Int)) L1.length)) := hogx1
  have hz13 : w12.heap.size ≤ w13.heap.size := (hb13.size)
  have HB13 : Hid (Below w.heap.size w w13) := HB12.out.trans ((hb13.below (by first | omega | (simp; omega))).mono (by first | omega | (simp; omega)))
  clear kb0_12 ksc0_12 ksc1_12 kx0_12 kgc0_12 kgc1_12 Os0_12 Os1_12 Og_12 Ox0_12 Ox1_12 HB12 hb13
  have hkpos : 0 ≤ 1 + (totTo L0 L0.length : Int) + (L1.length : Int) := by omega
  go_wp2_with fail
  refine (eqDecomp_any _ _ _ _ _ _ _ _ _ Og_13.out.one.grid.grid Og_13.out.two.grid.grid Os0_13.out.read Os1_13.out.read).mono ?_
  rintro e w14 ⟨rfl, hb14⟩
  rw [decide_eq_true ⟨rfl, rfl⟩]
  have kb0_14 := cell_keep hb14 kb0_13
  have ksc0_14 := cell_keep hb14 ksc0_13
  have ksc1_14 := cell_keep hb14 ksc1_13
  have kx0_14 := cell_keep hb14 kx0_13
  have kgc0_14 := cell_keep hb14 kgc0_13
  have kgc1_14 := cell_keep hb14 kgc1_13
  have Os0_14 := Lib.hid (Os0_13.out.keep hb14)
  have Os1_14 := Lib.hid (Os1_13.out.keep hb14)
  have Og_14 := Lib.hid (Og_13.out.keep hb14)
  have Ox0_14 := Lib.hid (Ox0_13.out.keep hb14)
  have Ox1_14 := Lib.hid (Ox1_13.out.keep hb14)
  have hz14 : w13.heap.size ≤ w14.heap.size := hb14.size
  have HB14 : Hid (Below w.heap.size w w14) := HB13.out.trans (hb14.mono (by first | omega | (simp; omega)))
  clear kb0_13 ksc0_13 ksc1_13 kx0_13 kgc0_13 kgc1_13 Os0_13 Os1_13 Og_13 Ox0_13 Ox1_13 HB13 hb14
  have hrt0 := totTo_le hsr0.2 E0.length (Nat.le_refl _)
  have hru0 : 1048576 * E0.length ≤ 1048576 * 1048576 := by have := hsr0.1; omega
  have hrt1 := totTo_le hsr1.2 E1.length (Nat.le_refl _)
  have hru1 : 1048576 * E1.length ≤ 1048576 * 1048576 := by have := hsr1.1; omega
  go_wp2_with fail
  refine (markPair_any _ _ E0 E1 Rg Sg (w6.heap.size) w7.heap.size 1 _ HRU.out Og_14.out (by omega) (by omega) (by omega) hsr0 hsr1).mono ?_
  rintro e w15 ⟨rfl, hogg, hb15⟩
  have kb0_15 := cell_apart kb0_14 hb15 (by dsimp only; omega)
  have ksc0_15 := cell_apart ksc0_14 hb15 (by dsimp only; omega)
  have ksc1_15 := cell_apart ksc1_14 hb15 (by dsimp only; omega)
  have kx0_15 := cell_apart kx0_14 hb15 (by dsimp only; omega)
  have kgc0_15 := cell_apart kgc0_14 hb15 (by dsimp only; omega)
  have kgc1_15 := cell_apart kgc1_14 hb15 (by dsimp only; omega)
  have Os0_15 := Lib.hid (Os0_14.out.apart hb15 (by omega))
  have Os1_15 := Lib.hid (Os1_14.out.apart hb15 (by omega))
  have Ox0_15 := Lib.hid (Ox0_14.out.apart hb15 (by omega))
  have Ox1_15 := Lib.hid (Ox1_14.out.apart hb15 (by omega))
  have Og_15 : Hid (PairBy 2 33 w15 (w6.heap.size) (.slice ag0 ng0 cg0) (.slice ag1 ng1 cg1) (marksG E0 1) (marksG E1 (1 + (totTo E0 E0.length : Int))) Rg Sg) := hogg
  have hz15 : w14.heap.size ≤ w15.heap.size := (hb15.size)
  have HB15 : Hid (Below w.heap.size w w15) := HB14.out.trans ((hb15.below (by first | omega | (simp; omega))).mono (by first | omega | (simp; omega)))
  clear kb0_14 ksc0_14 ksc1_14 kx0_14 kgc0_14 kgc1_14 Os0_14 Os1_14 Ox0_14 Ox1_14 Og_14 HB14 hb15
  have hmpos : 0 ≤ 1 + (totTo E0 E0.length : Int) + (totTo E1 E1.length : Int) := by omega
  have hmne : ((1 + (totTo E0 E0.length : Int) + (totTo E1 E1.length : Int)) != (1 + (totTo E0 E0.length : Int) + (totTo E1 E1.length : Int))) = false := by simp
  go_wp2_with fail
  refine (heldPair_any _ _ E0 E1 1 _ Og_15.out.one.grid.grid Og_15.out.two.grid.grid (by omega) (by omega) hsr0 hsr1).mono ?_
  rintro e w16 ⟨rfl, hb16⟩
  have kb0_16 := cell_keep hb16 kb0_15
  have ksc0_16 := cell_keep hb16 ksc0_15
  have ksc1_16 := cell_keep hb16 ksc1_15
  have kx0_16 := cell_keep hb16 kx0_15
  have kgc0_16 := cell_keep hb16 kgc0_15
  have kgc1_16 := cell_keep hb16 kgc1_15
  have Os0_16 := Lib.hid (Os0_15.out.keep hb16)
  have Os1_16 := Lib.hid (Os1_15.out.keep hb16)
  have Ox0_16 := Lib.hid (Ox0_15.out.keep hb16)
  have Ox1_16 := Lib.hid (Ox1_15.out.keep hb16)
  have Og_16 := Lib.hid (Og_15.out.keep hb16)
  have hz16 : w15.heap.size ≤ w16.heap.size := hb16.size
  have HB16 : Hid (Below w.heap.size w w16) := HB15.out.trans (hb16.mono (by first | omega | (simp; omega)))
  clear kb0_15 ksc0_15 ksc1_15 kx0_15 kgc0_15 kgc1_15 Os0_15 Os1_15 Ox0_15 Ox1_15 Og_15 HB15 hb16
  go_wp2_with fail
  refine (toGraph_any _ _ _ (h0.keep HB16.out) hsm0).mono ?_
  rintro e w17 ⟨nq0, aq0, cq0, rfl, hoq0, hb17⟩
  have kb0_17 := cell_keep hb17 kb0_16
  have ksc0_17 := cell_keep hb17 ksc0_16
  have ksc1_17 := cell_keep hb17 ksc1_16
  have kx0_17 := cell_keep hb17 kx0_16
  have kgc0_17 := cell_keep hb17 kgc0_16
  have kgc1_17 := cell_keep hb17 kgc1_16
  have Os0_17 := Lib.hid (Os0_16.out.keep hb17)
  have Os1_17 := Lib.hid (Os1_16.out.keep hb17)
  have Ox0_17 := Lib.hid (Ox0_16.out.keep hb17)
  have Ox1_17 := Lib.hid (Ox1_16.out.keep hb17)
  have Og_17 := Lib.hid (Og_16.out.keep hb17)
  have Oq0_17 : Hid (OwnGridU 2 33 w17 (w16.heap.size) w17.heap.size (.slice aq0 nq0 cq0) L0) := (hoq0.mono (by first | exact Nat.le_refl _ | simp)).under
  have hz17 : w16.heap.size ≤ w17.heap.size := hb17.size
  have HB17 : Hid (Below w.heap.size w w17) := HB16.out.trans (hb17.mono (by first | omega | (simp; omega)))
  clear kb0_16 ksc0_16 ksc1_16 kx0_16 kgc0_16 kgc1_16 Os0_16 Os1_16 Ox0_16 Ox1_16 Og_16 HB16 hb17
  go_wp2_with fail
  refine (toInt64S_gave _ _ _ (h1.keep HB17.out) hr1').mono ?_
  rintro e w18 ⟨nq1, aq1, cq1, rfl, hoq1, hb18⟩
  have kb0_18 := cell_keep hb18 kb0_17
  have ksc0_18 := cell_keep hb18 ksc0_17
  have ksc1_18 := cell_keep hb18 ksc1_17
  have kx0_18 := cell_keep hb18 kx0_17
  have kgc0_18 := cell_keep hb18 kgc0_17
  have kgc1_18 := cell_keep hb18 kgc1_17
  have Os0_18 := Lib.hid (Os0_17.out.keep hb18)
  have Os1_18 := Lib.hid (Os1_17.out.keep hb18)
  have Ox0_18 := Lib.hid (Ox0_17.out.keep hb18)
  have Ox1_18 := Lib.hid (Ox1_17.out.keep hb18)
  have Og_18 := Lib.hid (Og_17.out.keep hb18)
  have Oq0_18 := Lib.hid (Oq0_17.out.keep hb18)
  have Oq1_18 : Hid (OwnRowU 2 w18 (w17.heap.size) w18.heap.size (.slice aq1 nq1 cq1) L1) := (hoq1.mono (by first | exact Nat.le_refl _ | simp)).under
  have hz18 : w17.heap.size ≤ w18.heap.size := hb18.size
  have HB18 : Hid (Below w.heap.size w w18) := HB17.out.trans (hb18.mono (by first | omega | (simp; omega)))
  clear kb0_17 ksc0_17 ksc1_17 kx0_17 kgc0_17 kgc1_17 Os0_17 Os1_17 Ox0_17 Ox1_17 Og_17 Oq0_17 HB17 hb18
  go_wp2_with fail
  refine (implDecompBy_any _ _ _ _ _ Oq0_18.out.read Oq1_18.out.read).mono ?_
  rintro e w19 ⟨nh0, ah0, ch0, nh1, ah1, ch1, Rh, Sh, rfl, hph, hb19⟩
  rw [← HEQ2.out]
  have kb0_19 := cell_keep hb19 kb0_18
  have ksc0_19 := cell_keep hb19 ksc0_18
  have ksc1_19 := cell_keep hb19 ksc1_18
  have kx0_19 := cell_keep hb19 kx0_18
  have kgc0_19 := cell_keep hb19 kgc0_18
  have kgc1_19 := cell_keep hb19 kgc1_18
  have Os0_19 := Lib.hid (Os0_18.out.keep hb19)
  have Os1_19 := Lib.hid (Os1_18.out.keep hb19)
  have Ox0_19 := Lib.hid (Ox0_18.out.keep hb19)
  have Ox1_19 := Lib.hid (Ox1_18.out.keep hb19)
  have Og_19 := Lib.hid (Og_18.out.keep hb19)
  have Oq0_19 := Lib.hid (Oq0_18.out.keep hb19)
  have Oq1_19 := Lib.hid (Oq1_18.out.keep hb19)
  have Oh0_19 : Hid (OwnGridU 2 33 w19 (w18.heap.size) w19.heap.size (.slice ah0 nh0 ch0) E0) := (by have hq := hph.one.grid; rw [← HEQ0.out] at hq; exact (hq.mono (by first | exact Nat.le_refl _ | simp)).under)
  have Oh1_19 : Hid (OwnGridU 2 33 w19 (w18.heap.size) w19.heap.size (.slice ah1 nh1 ch1) E1) := (by have hq := hph.two.grid; rw [← HEQ1.out] at hq; exact (hq.mono (by first | exact Nat.le_refl _ | simp)).under)
  have hz19 : w18.heap.size ≤ w19.heap.size := hb19.size
  have HB19 : Hid (Below w.heap.size w w19) := HB18.out.trans (hb19.mono (by first | omega | (simp; omega)))
  clear kb0_18 ksc0_18 ksc1_18 kx0_18 kgc0_18 kgc1_18 Os0_18 Os1_18 Ox0_18 Ox1_18 Og_18 Oq0_18 Oq1_18 HB18 hb19
  have ha20 : Below w19.heap.size w19 (w19.alloc (.cells #[.slice ah0 nh0 ch0, .slice ah1 nh1 ch1] 27)) := ((Below.refl _ _).alloc (Nat.le_refl _) _)
  have kb0_19a := cell_keep ha20 kb0_19
  have ksc0_19a := cell_keep ha20 ksc0_19
  have ksc1_19a := cell_keep ha20 ksc1_19
  have kx0_19a := cell_keep ha20 kx0_19
  have kgc0_19a := cell_keep ha20 kgc0_19
  have kgc1_19a := cell_keep ha20 kgc1_19
  go_wp2_with fail
  clear kb0_19a ksc0_19a ksc1_19a kx0_19a kgc0_19a kgc1_19a
  refine (eqDecomp_any _ _ _ _ _ _ _ _ _ (Oh0_19.out.read.keep ha20) (Oh1_19.out.read.keep ha20) (Os0_19.out.read.keep ha20) (Os1_19.out.read.keep ha20)).mono ?_
  rintro e w20 ⟨rfl, hb20⟩
  rw [decide_eq_true ⟨rfl, rfl⟩]
  have kb0_20 := cell_keep hb20 (cell_keep ha20 kb0_19)
  have ksc0_20 := cell_keep hb20 (cell_keep ha20 ksc0_19)
  have ksc1_20 := cell_keep hb20 (cell_keep ha20 ksc1_19)
  have kx0_20 := cell_keep hb20 (cell_keep ha20 kx0_19)
  have kgc0_20 := cell_keep hb20 (cell_keep ha20 kgc0_19)
  have kgc1_20 := cell_keep hb20 (cell_keep ha20 kgc1_19)
  have khc0_20 : w20.cell? ⟨w19.heap.size, 0, none⟩ = some (.slice ah0 nh0 ch0) := ((Box2.new w19 (.slice ah0 nh0 ch0) (.slice ah1 nh1 ch1) 27).keep hb20).c0
  have khc1_20 : w20.cell? ⟨w19.heap.size, 1, none⟩ = some (.slice ah1 nh1 ch1) := ((Box2.new w19 (.slice ah0 nh0 ch0) (.slice ah1 nh1 ch1) 27).keep hb20).c1
  have Os0_20 := Lib.hid ((Os0_19.out.keep ha20).keep hb20)
  have Os1_20 := Lib.hid ((Os1_19.out.keep ha20).keep hb20)
  have Ox0_20 := Lib.hid ((Ox0_19.out.keep ha20).keep hb20)
  have Ox1_20 := Lib.hid ((Ox1_19.out.keep ha20).keep hb20)
  have Og_20 := Lib.hid ((Og_19.out.keep ha20).keep hb20)
  have Oh0_20 := Lib.hid ((Oh0_19.out.keep ha20).keep hb20)
  have Oh1_20 := Lib.hid ((Oh1_19.out.keep ha20).keep hb20)
  have hz20 : w19.heap.size + 1 ≤ w20.heap.size := by have hq := hb20.size; simpa using hq
  have HB20 : Hid (Below w.heap.size w w20) := (HB19.out.trans (ha20.mono HB19.out.size)).trans (hb20.mono (by first | omega | (simp; omega)))
  clear kb0_19 ksc0_19 ksc1_19 kx0_19 kgc0_19 kgc1_19 Os0_19 Os1_19 Ox0_19 Ox1_19 Og_19 Oh0_19 Oh1_19 HB19 ha20 hb20
  go_wp2_with fail
  refine (heldPair_any _ _ E0 E1 1 _ Og_20.out.one.grid.grid Og_20.out.two.grid.grid (by omega) (by omega) hsr0 hsr1).mono ?_
  rintro e w21 ⟨rfl, hb21⟩
  have kb0_21 := cell_keep hb21 kb0_20
  have ksc0_21 := cell_keep hb21 ksc0_20
  have ksc1_21 := cell_keep hb21 ksc1_20
  have kx0_21 := cell_keep hb21 kx0_20
  have kgc0_21 := cell_keep hb21 kgc0_20
  have kgc1_21 := cell_keep hb21 kgc1_20
  have khc0_21 := cell_keep hb21 khc0_20
  have khc1_21 := cell_keep hb21 khc1_20
  have Os0_21 := Lib.hid (Os0_20.out.keep hb21)
  have Os1_21 := Lib.hid (Os1_20.out.keep hb21)
  have Ox0_21 := Lib.hid (Ox0_20.out.keep hb21)
  have Ox1_21 := Lib.hid (Ox1_20.out.keep hb21)
  have Og_21 := Lib.hid (Og_20.out.keep hb21)
  have Oh0_21 := Lib.hid (Oh0_20.out.keep hb21)
  have Oh1_21 := Lib.hid (Oh1_20.out.keep hb21)
  have hz21 : w20.heap.size ≤ w21.heap.size := hb21.size
  have HB21 : Hid (Below w.heap.size w w21) := HB20.out.trans (hb21.mono (by first | omega | (simp; omega)))
  clear kb0_20 ksc0_20 ksc1_20 kx0_20 kgc0_20 kgc1_20 khc0_20 khc1_20 Os0_20 Os1_20 Ox0_20 Ox1_20 Og_20 Oh0_20 Oh1_20 HB20 hb21
  go_wp2
  go_ret
  exact ⟨rfl, HB21.out⟩

end Go.Proofs.Ytohjfcfcopbmoaa
