/- The walk of the law FnExactAlikeIn, written by program (tools/lawgen2.py) out of the contracts. -/
import Derived.Test.YtnjkhiheapmlmaaQMark
import Derived.Test.YtnjkhiheapmlmaaQEP1
import Derived.Deep.RegionHeld3

namespace Go.Proofs.Ytnjkhiheapmlmaa
open Go.RowKit

set_option maxHeartbeats 4000000 in
set_option maxRecDepth 100000 in
theorem lawAlikeIn (v0 : Value) (L0 : List (List Int)) (v1 : Value) (L1 : List (List Int)) (w : World) (h0 : GridAt w v0 L0) (h1 : GridAt w v1 L1) :
    Calls Try.prog 9 #[.agg #[v0], .agg #[v1]] w fun e w' => e = .returned (.bool true) ∧ Below w.heap.size w w' := by
  obtain ⟨a0, c0, rfl⟩ := h0.slice
  obtain ⟨a1, c1, rfl⟩ := h1.slice
  have hsr0 := alL_small L0 L1
  obtain ⟨E0, hE0⟩ : ∃ x, x = alL L0 L1 := ⟨_, rfl⟩
  rw [← hE0] at hsr0
  have HEQ0 := Lib.hid hE0
  clear hE0
  obtain ⟨E1, hE1⟩ : ∃ x, x = alB L0 L1 := ⟨_, rfl⟩
  have HEQ1 := Lib.hid hE1
  clear hE1
  go_enter Try.func9, Try.ntmps9
  have ha1 : Below w.heap.size w ((w.alloc (.cells #[.slice a0 L0.length c0] 48)).alloc (.cells #[.slice a1 L1.length c1] 48)) := (((Below.refl _ _).alloc (Nat.le_refl _) _).alloc (by first | (simp; done) | (simp; omega)) _)
  go_wp2_with fail
  refine (szGraph_any _ _ _ _ (h0.keep ha1) (by omega) (by omega)).mono ?_
  rintro e w1 ⟨rfl, hb1⟩
  have kb0_1 : w1.cell? ⟨w.heap.size, 0, none⟩ = some (.slice a0 L0.length c0) := by rw [hb1.cell (by first | (simp; done) | (simp; omega))]; go_simp
  have kb1_1 : w1.cell? ⟨w.heap.size + 1, 0, none⟩ = some (.slice a1 L1.length c1) := by rw [hb1.cell (by first | (simp; done) | (simp; omega))]; go_simp
  have hz1 : w.heap.size + 1 + 1 ≤ w1.heap.size := by have hq := hb1.size; simpa using hq
  have HB1 : Hid (Below w.heap.size w w1) := ha1.trans (hb1.mono (by first | (simp; done) | (simp; omega)))
  clear ha1 hb1
  by_cases hs0 : szGrid L0 1048576 < 0
  · go_wp2
    go_ret
    exact ⟨rfl, HB1.out⟩
  have hsm0 := (szGrid_small (L := L0) (left := 1048576) (by omega) (by omega)).1
  have hle0 := (szGrid_small (L := L0) (left := 1048576) (by omega) (by omega)).2
  go_wp2_with fail
  refine (szGraph_any _ _ _ _ (h1.keep HB1.out) (by omega) (by omega)).mono ?_
  rintro e w2 ⟨rfl, hb2⟩
  have kb0_2 := cell_keep hb2 kb0_1
  have kb1_2 := cell_keep hb2 kb1_1
  have hz2 : w1.heap.size ≤ w2.heap.size := hb2.size
  have HB2 : Hid (Below w.heap.size w w2) := HB1.out.trans (hb2.mono (by first | omega | (simp; omega)))
  clear kb0_1 kb1_1 HB1 hb2
  by_cases hs1 : szGrid L1 (szGrid L0 1048576) < 0
  · go_wp2
    go_ret
    exact ⟨rfl, HB2.out⟩
  have hsm1 := (szGrid_small (L := L1) (left := (szGrid L0 1048576)) (by omega) (by omega)).1
  have hle1 := (szGrid_small (L := L1) (left := (szGrid L0 1048576)) (by omega) (by omega)).2
  go_wp2
  go_region_held3 (fun wx => wx.cell? ⟨w.heap.size, 0, none⟩ = some (.slice a0 L0.length c0) ∧ wx.cell? ⟨w.heap.size + 1, 0, none⟩ = some (.slice a1 L1.length c1)) (first | exact ⟨kb0_2, kb1_2⟩ | exact ⟨kb0_3r1, kb1_3r1⟩ | exact ⟨kb0_3r2, kb1_3r2⟩ | exact ⟨kb0_3r3, kb1_3r3⟩)
    (first | (go_at_call_of 44 (L0); refine (toGraph_any _ _ _ ((h0.keep HB2.out).keep (Below.refl _ _).drew) hsm0).mono ?_; rintro e w3r1 ⟨np0, ap0, cp0, rfl, hop0, hb3r1⟩; have kb0_3r1 := cell_keep hb3r1 (cell_keep (Below.refl _ _).drew kb0_2); have kb1_3r1 := cell_keep hb3r1 (cell_keep (Below.refl _ _).drew kb1_2); have Op0_3r1 : Hid (OwnGridU 2 31 w3r1 (w2.heap.size) w3r1.heap.size (.slice ap0 np0 cp0) L0) := (hop0.mono (by first | exact Nat.le_refl _ | simp)).under; have hz3r1 : w2.heap.size ≤ w3r1.heap.size := hb3r1.size; have HB3r1 : Hid (Below w.heap.size w w3r1) := HB2.out.drew.trans (hb3r1.mono HB2.out.size); clear hb3r1) | (go_at_call_of 44 (L1); refine (toGraph_any _ _ _ (h1.keep HB3r1.out) hsm1).mono ?_; rintro e w3r2 ⟨np1, ap1, cp1, rfl, hop1, hb3r2⟩; have kb0_3r2 := cell_keep hb3r2 kb0_3r1; have kb1_3r2 := cell_keep hb3r2 kb1_3r1; have Op0_3r2 := Lib.hid (Op0_3r1.out.keep hb3r2); have Op1_3r2 : Hid (OwnGridU 2 31 w3r2 (w3r1.heap.size) w3r2.heap.size (.slice ap1 np1 cp1) L1) := (hop1.mono (by first | exact Nat.le_refl _ | simp)).under; have hz3r2 : w3r1.heap.size ≤ w3r2.heap.size := hb3r2.size; have HB3r2 : Hid (Below w.heap.size w w3r2) := HB3r1.out.trans (hb3r2.mono HB3r1.out.size); clear hb3r2) | (go_at_call 27; refine (specAlikeIn_any _ _ _ _ _ Op0_3r2.out.read Op1_3r2.out.read).mono ?_; rintro e w3r3 ⟨ns0, as0, cs0, rfl, hos0, hb3r3⟩; have kb0_3r3 := cell_keep hb3r3 kb0_3r2; have kb1_3r3 := cell_keep hb3r3 kb1_3r2; have Op0_3r3 := Lib.hid (Op0_3r2.out.keep hb3r3); have Op1_3r3 := Lib.hid (Op1_3r2.out.keep hb3r3); have Os0_3r3 : Hid (OwnRowU 2 w3r3 (w3r2.heap.size) w3r3.heap.size (.slice as0 ns0 cs0) E0) := (by have hq := hos0; rw [← HEQ0.out] at hq; exact (hq.mono (by first | exact Nat.le_refl _ | simp)).under); have hz3r3 : w3r2.heap.size ≤ w3r3.heap.size := hb3r3.size; have HB3r3 : Hid (Below w.heap.size w w3r3) := HB3r2.out.trans (hb3r3.mono HB3r2.out.size); clear hb3r3; rw [← HEQ1.out]))
  clear kb0_2 kb1_2 HB2 kb0_3r1 kb1_3r1 Op0_3r1 HB3r1 kb0_3r2 kb1_3r2 Op0_3r2 Op1_3r2 HB3r2
  go_wp2_with fail
  refine (toGraph_any _ _ _ (h0.keep HB3r3.out) hsm0).mono ?_
  rintro e w4 ⟨nx0, ax0, cx0, rfl, hox0, hb4⟩
  have kb0_4 := cell_keep hb4 kb0_3r3
  have kb1_4 := cell_keep hb4 kb1_3r3
  have Os0_4 := Lib.hid (Os0_3r3.out.keep hb4)
  have Ox0_4 : Hid (OwnGridU 2 31 w4 (w3r3.heap.size) w4.heap.size (.slice ax0 nx0 cx0) L0) := (hox0.mono (by first | exact Nat.le_refl _ | simp)).under
  have hz4 : w3r3.heap.size ≤ w4.heap.size := hb4.size
  have HB4 : Hid (Below w.heap.size w w4) := HB3r3.out.trans (hb4.mono (by first | omega | (simp; omega)))
  clear kb0_3r3 kb1_3r3 Os0_3r3 HB3r3 hb4
  have ha5 : Below w4.heap.size w4 (w4.alloc (.cells #[.slice ax0 nx0 cx0] 29)) := ((Below.refl _ _).alloc (Nat.le_refl _) _)
  have kb0_4a := cell_keep ha5 kb0_4
  have kb1_4a := cell_keep ha5 kb1_4
  go_wp2_with fail
  clear kb0_4a kb1_4a
  refine (toGraph_any _ _ _ ((h1.keep HB4.out).keep ha5) hsm1).mono ?_
  rintro e w5 ⟨nx1, ax1, cx1, rfl, hox1, hb5⟩
  have kb0_5 := cell_keep hb5 (cell_keep ha5 kb0_4)
  have kb1_5 := cell_keep hb5 (cell_keep ha5 kb1_4)
  have kx0_5 : w5.cell? ⟨w4.heap.size, 0, none⟩ = some (.slice ax0 nx0 cx0) := by rw [hb5.cell (by first | (simp; done) | (simp; omega))]; go_simp
  have Os0_5 := Lib.hid ((Os0_4.out.keep ha5).keep hb5)
  have Ox0_5 := Lib.hid ((Ox0_4.out.keep ha5).keep hb5)
  have Ox1_5 : Hid (OwnGridU 2 31 w5 (w4.heap.size + 1) w5.heap.size (.slice ax1 nx1 cx1) L1) := (hox1.mono (by first | exact Nat.le_refl _ | simp)).under
  have hz5 : w4.heap.size + 1 ≤ w5.heap.size := by have hq := hb5.size; simpa using hq
  have HB5 : Hid (Below w.heap.size w w5) := (HB4.out.trans (ha5.mono HB4.out.size)).trans (hb5.mono (by first | omega | (simp; omega)))
  clear kb0_4 kb1_4 Os0_4 Ox0_4 HB4 ha5 hb5
  have ha6 : Below w5.heap.size w5 (w5.alloc (.cells #[.slice ax1 nx1 cx1] 29)) := ((Below.refl _ _).alloc (Nat.le_refl _) _)
  have kb0_5a := cell_keep ha6 kb0_5
  have kb1_5a := cell_keep ha6 kb1_5
  have kx0_5a := cell_keep ha6 kx0_5
  go_wp2_with fail
  clear kb0_5a kb1_5a kx0_5a
  refine (implAlikeIn_any _ _ _ _ _ (Ox0_5.out.read.keep ha6) (Ox1_5.out.read.keep ha6)).mono ?_
  rintro e w6 ⟨ng0, ag0, cg0, rfl, hog0, hb6⟩
  rw [← HEQ1.out]
  have kb0_6 := cell_keep hb6 (cell_keep ha6 kb0_5)
  have kb1_6 := cell_keep hb6 (cell_keep ha6 kb1_5)
  have kx0_6 := cell_keep hb6 (cell_keep ha6 kx0_5)
  have kx1_6 : w6.cell? ⟨w5.heap.size, 0, none⟩ = some (.slice ax1 nx1 cx1) := by rw [hb6.cell (by first | (simp; done) | (simp; omega))]; go_simp
  have Os0_6 := Lib.hid ((Os0_5.out.keep ha6).keep hb6)
  have Ox0_6 := Lib.hid ((Ox0_5.out.keep ha6).keep hb6)
  have Ox1_6 := Lib.hid ((Ox1_5.out.keep ha6).keep hb6)
  have Og0_6 : Hid (OwnRowU 2 w6 (w5.heap.size + 1) w6.heap.size (.slice ag0 ng0 cg0) E0) := (by have hq := hog0; rw [← HEQ0.out] at hq; exact (hq.mono (by first | exact Nat.le_refl _ | simp)).under)
  have hz6 : w5.heap.size + 1 ≤ w6.heap.size := by have hq := hb6.size; simpa using hq
  have HB6 : Hid (Below w.heap.size w w6) := (HB5.out.trans (ha6.mono HB5.out.size)).trans (hb6.mono (by first | omega | (simp; omega)))
  clear kb0_5 kb1_5 kx0_5 Os0_5 Ox0_5 Ox1_5 HB5 ha6 hb6
  go_wp2_with fail
  refine (eqInt64S_b _ _ _ _ _ Og0_6.out.read Os0_6.out.read).mono ?_
  rintro e w7 ⟨rfl, hb7⟩
  rw [decide_eq_true rfl]
  have kb0_7 := cell_keep hb7 kb0_6
  have kb1_7 := cell_keep hb7 kb1_6
  have kx0_7 := cell_keep hb7 kx0_6
  have kx1_7 := cell_keep hb7 kx1_6
  have Os0_7 := Lib.hid (Os0_6.out.keep hb7)
  have Ox0_7 := Lib.hid (Ox0_6.out.keep hb7)
  have Ox1_7 := Lib.hid (Ox1_6.out.keep hb7)
  have Og0_7 := Lib.hid (Og0_6.out.keep hb7)
  have hz7 : w6.heap.size ≤ w7.heap.size := hb7.size
  have HB7 : Hid (Below w.heap.size w w7) := HB6.out.trans (hb7.mono (by first | omega | (simp; omega)))
  clear kb0_6 kb1_6 kx0_6 kx1_6 Os0_6 Ox0_6 Ox1_6 Og0_6 HB6 hb7
  go_wp2
  go_region_held3 (fun wx => wx.cell? ⟨w.heap.size, 0, none⟩ = some (.slice a0 L0.length c0) ∧ wx.cell? ⟨w4.heap.size, 0, none⟩ = some (.slice ax0 nx0 cx0)) (first | exact ⟨kb0_7, kx0_7⟩ | exact ⟨kb0_8r1, kx0_8r1⟩ | exact ⟨kb0_8r2, kx0_8r2⟩)
    (first | (go_at_call 44; refine (toGraph_any _ _ _ ((h0.keep HB7.out).keep (Below.refl _ _).drew) hsm0).mono ?_; rintro e w8r1 ⟨ny0, ay0, cy0, rfl, hoy0, hb8r1⟩; have kb0_8r1 := cell_keep hb8r1 (cell_keep (Below.refl _ _).drew kb0_7); have kb1_8r1 := cell_keep hb8r1 (cell_keep (Below.refl _ _).drew kb1_7); have kx0_8r1 := cell_keep hb8r1 (cell_keep (Below.refl _ _).drew kx0_7); have kx1_8r1 := cell_keep hb8r1 (cell_keep (Below.refl _ _).drew kx1_7); have Os0_8r1 := Lib.hid ((Os0_7.out.keep (Below.refl _ _).drew).keep hb8r1); have Ox0_8r1 := Lib.hid ((Ox0_7.out.keep (Below.refl _ _).drew).keep hb8r1); have Ox1_8r1 := Lib.hid ((Ox1_7.out.keep (Below.refl _ _).drew).keep hb8r1); have Og0_8r1 := Lib.hid ((Og0_7.out.keep (Below.refl _ _).drew).keep hb8r1); have Oy0_8r1 : Hid (OwnGridU 2 31 w8r1 (w7.heap.size) w8r1.heap.size (.slice ay0 ny0 cy0) L0) := (hoy0.mono (by first | exact Nat.le_refl _ | simp)).under; have hz8r1 : w7.heap.size ≤ w8r1.heap.size := hb8r1.size; have HB8r1 : Hid (Below w.heap.size w w8r1) := HB7.out.drew.trans (hb8r1.mono HB7.out.size); clear hb8r1) | (go_at_call 46; refine (eqGraph_any _ _ _ _ _ Ox0_8r1.out.read Oy0_8r1.out.read).mono ?_; rintro e w8r2 ⟨rfl, hb8r2⟩; have kb0_8r2 := cell_keep hb8r2 kb0_8r1; have kb1_8r2 := cell_keep hb8r2 kb1_8r1; have kx0_8r2 := cell_keep hb8r2 kx0_8r1; have kx1_8r2 := cell_keep hb8r2 kx1_8r1; have Os0_8r2 := Lib.hid (Os0_8r1.out.keep hb8r2); have Ox0_8r2 := Lib.hid (Ox0_8r1.out.keep hb8r2); have Ox1_8r2 := Lib.hid (Ox1_8r1.out.keep hb8r2); have Og0_8r2 := Lib.hid (Og0_8r1.out.keep hb8r2); have Oy0_8r2 := Lib.hid (Oy0_8r1.out.keep hb8r2); have hz8r2 : w8r1.heap.size ≤ w8r2.heap.size := hb8r2.size; have HB8r2 : Hid (Below w.heap.size w w8r2) := HB8r1.out.trans (hb8r2.mono HB8r1.out.size); clear hb8r2; rw [decide_eq_true rfl]))
  clear kb0_7 kb1_7 kx0_7 kx1_7 Os0_7 Ox0_7 Ox1_7 Og0_7 HB7 kb0_8r1 kb1_8r1 kx0_8r1 kx1_8r1 Os0_8r1 Ox0_8r1 Ox1_8r1 Og0_8r1 Oy0_8r1 HB8r1
  go_wp2
  go_region_held3 (fun wx => wx.cell? ⟨w.heap.size + 1, 0, none⟩ = some (.slice a1 L1.length c1) ∧ wx.cell? ⟨w5.heap.size, 0, none⟩ = some (.slice ax1 nx1 cx1)) (first | exact ⟨kb1_8r2, kx1_8r2⟩ | exact ⟨kb1_9r1, kx1_9r1⟩ | exact ⟨kb1_9r2, kx1_9r2⟩)
    (first | (go_at_call 44; refine (toGraph_any _ _ _ ((h1.keep HB8r2.out).keep (Below.refl _ _).drew) hsm1).mono ?_; rintro e w9r1 ⟨ny1, ay1, cy1, rfl, hoy1, hb9r1⟩; have kb0_9r1 := cell_keep hb9r1 (cell_keep (Below.refl _ _).drew kb0_8r2); have kb1_9r1 := cell_keep hb9r1 (cell_keep (Below.refl _ _).drew kb1_8r2); have kx0_9r1 := cell_keep hb9r1 (cell_keep (Below.refl _ _).drew kx0_8r2); have kx1_9r1 := cell_keep hb9r1 (cell_keep (Below.refl _ _).drew kx1_8r2); have Os0_9r1 := Lib.hid ((Os0_8r2.out.keep (Below.refl _ _).drew).keep hb9r1); have Ox0_9r1 := Lib.hid ((Ox0_8r2.out.keep (Below.refl _ _).drew).keep hb9r1); have Ox1_9r1 := Lib.hid ((Ox1_8r2.out.keep (Below.refl _ _).drew).keep hb9r1); have Og0_9r1 := Lib.hid ((Og0_8r2.out.keep (Below.refl _ _).drew).keep hb9r1); have Oy1_9r1 : Hid (OwnGridU 2 31 w9r1 (w8r2.heap.size) w9r1.heap.size (.slice ay1 ny1 cy1) L1) := (hoy1.mono (by first | exact Nat.le_refl _ | simp)).under; have hz9r1 : w8r2.heap.size ≤ w9r1.heap.size := hb9r1.size; have HB9r1 : Hid (Below w.heap.size w w9r1) := HB8r2.out.drew.trans (hb9r1.mono HB8r2.out.size); clear hb9r1) | (go_at_call 46; refine (eqGraph_any _ _ _ _ _ Ox1_9r1.out.read Oy1_9r1.out.read).mono ?_; rintro e w9r2 ⟨rfl, hb9r2⟩; have kb0_9r2 := cell_keep hb9r2 kb0_9r1; have kb1_9r2 := cell_keep hb9r2 kb1_9r1; have kx0_9r2 := cell_keep hb9r2 kx0_9r1; have kx1_9r2 := cell_keep hb9r2 kx1_9r1; have Os0_9r2 := Lib.hid (Os0_9r1.out.keep hb9r2); have Ox0_9r2 := Lib.hid (Ox0_9r1.out.keep hb9r2); have Ox1_9r2 := Lib.hid (Ox1_9r1.out.keep hb9r2); have Og0_9r2 := Lib.hid (Og0_9r1.out.keep hb9r2); have Oy1_9r2 := Lib.hid (Oy1_9r1.out.keep hb9r2); have hz9r2 : w9r1.heap.size ≤ w9r2.heap.size := hb9r2.size; have HB9r2 : Hid (Below w.heap.size w w9r2) := HB9r1.out.trans (hb9r2.mono HB9r1.out.size); clear hb9r2; rw [decide_eq_true rfl]))
  clear kb0_8r2 kb1_8r2 kx0_8r2 kx1_8r2 Os0_8r2 Ox0_8r2 Ox1_8r2 Og0_8r2 HB8r2 kb0_9r1 kb1_9r1 kx0_9r1 kx1_9r1 Os0_9r1 Ox0_9r1 Ox1_9r1 Og0_9r1 Oy1_9r1 HB9r1
  have hone : (0 : Int) ≤ 1 := by omega
  have htt0 := totTo_le hsm0.2 L0.length (Nat.le_refl _)
  have htu0 : 1048576 * L0.length ≤ 1048576 * 1048576 := by have := hsm0.1; omega
  have htt1 := totTo_le hsm1.2 L1.length (Nat.le_refl _)
  have htu1 : 1048576 * L1.length ≤ 1048576 * 1048576 := by have := hsm1.1; omega
  go_wp2_with fail
  refine (markGraph_any _ _ (w3r3.heap.size) w4.heap.size _ _ Ox0_9r2.out (by omega) (by omega) hsm0).mono ?_
  rintro e w10 ⟨rfl, hogx0, hb10⟩
  have kb0_10 := cell_apart kb0_9r2 hb10 (by dsimp only; omega)
  have kb1_10 := cell_apart kb1_9r2 hb10 (by dsimp only; omega)
  have kx0_10 := cell_apart kx0_9r2 hb10 (by dsimp only; omega)
  have kx1_10 := cell_apart kx1_9r2 hb10 (by dsimp only; omega)
  have Os0_10 := Lib.hid (Os0_9r2.out.apart hb10 (by omega))
  have Ox1_10 := Lib.hid (Ox1_9r2.out.apart hb10 (by omega))
  have Og0_10 := Lib.hid (Og0_9r2.out.apart hb10 (by omega))
  have Ox0_10 : Hid (OwnGridU 2 31 w10 (w3r3.heap.size) w4.heap.size (.slice ax0 nx0 cx0) (marksG L0 (1))) := hogx0
  have hz10 : w9r2.heap.size ≤ w10.heap.size := (hb10.size)
  have HB10 : Hid (Below w.heap.size w w10) := HB9r2.out.trans ((hb10.below (by first | omega | (simp; omega))).mono (by first | omega | (simp; omega)))
  clear kb0_9r2 kb1_9r2 kx0_9r2 kx1_9r2 Os0_9r2 Ox1_9r2 Og0_9r2 Ox0_9r2 HB9r2 hb10
  go_wp2_with fail
  refine (markGraph_any _ _ (w4.heap.size + 1) w5.heap.size _ _ Ox1_10.out (by omega) (by omega) hsm1).mono ?_
  rintro e w11 ⟨rfl, hogx1, hb11⟩
  have kb0_11 := cell_apart kb0_10 hb11 (by dsimp only; omega)
  have kb1_11 := cell_apart kb1_10 hb11 (by dsimp only; omega)
  have kx0_11 := cell_apart kx0_10 hb11 (by dsimp only; omega)
  have kx1_11 := cell_apart kx1_10 hb11 (by dsimp only; omega)
  have Os0_11 := Lib.hid (Os0_10.out.apart hb11 (by omega))
  have Og0_11 := Lib.hid (Og0_10.out.apart hb11 (by omega))
  have Ox0_11 := Lib.hid (Ox0_10.out.apart hb11 (by omega))
  have Ox1_11 : Hid (OwnGridU 2 31 w11 (w4.heap.size + 1) w5.heap.size (.slice ax1 nx1 cx1) (marksG L1 (1 + (totTo L0 L0.length : Int)))) := hogx1
  have hz11 : w10.heap.size ≤ w11.heap.size := (hb11.size)
  have HB11 : Hid (Below w.heap.size w w11) := HB10.out.trans ((hb11.below (by first | omega | (simp; omega))).mono (by first | omega | (simp; omega)))
  clear kb0_10 kb1_10 kx0_10 kx1_10 Os0_10 Og0_10 Ox0_10 Ox1_10 HB10 hb11
  have hkpos : 0 ≤ 1 + (totTo L0 L0.length : Int) + (totTo L1 L1.length : Int) := by omega
  go_wp2_with fail
  refine (eqInt64S_b _ _ _ _ _ Og0_11.out.read Os0_11.out.read).mono ?_
  rintro e w12 ⟨rfl, hb12⟩
  rw [decide_eq_true rfl]
  have kb0_12 := cell_keep hb12 kb0_11
  have kb1_12 := cell_keep hb12 kb1_11
  have kx0_12 := cell_keep hb12 kx0_11
  have kx1_12 := cell_keep hb12 kx1_11
  have Os0_12 := Lib.hid (Os0_11.out.keep hb12)
  have Og0_12 := Lib.hid (Og0_11.out.keep hb12)
  have Ox0_12 := Lib.hid (Ox0_11.out.keep hb12)
  have Ox1_12 := Lib.hid (Ox1_11.out.keep hb12)
  have hz12 : w11.heap.size ≤ w12.heap.size := hb12.size
  have HB12 : Hid (Below w.heap.size w w12) := HB11.out.trans (hb12.mono (by first | omega | (simp; omega)))
  clear kb0_11 kb1_11 kx0_11 kx1_11 Os0_11 Og0_11 Ox0_11 Ox1_11 HB11 hb12
  go_wp2_with fail
  refine (markInt64S_any _ _ (w5.heap.size + 1) w6.heap.size _ _ Og0_12.out (by omega) (by omega)).mono ?_
  rintro e w13 ⟨rfl, hogg0, hb13, _, _⟩
  have kb0_13 := cell_apart kb0_12 hb13 (by dsimp only; omega)
  have kb1_13 := cell_apart kb1_12 hb13 (by dsimp only; omega)
  have kx0_13 := cell_apart kx0_12 hb13 (by dsimp only; omega)
  have kx1_13 := cell_apart kx1_12 hb13 (by dsimp only; omega)
  have Os0_13 := Lib.hid (Os0_12.out.apart hb13 (by omega))
  have Ox0_13 := Lib.hid (Ox0_12.out.apart hb13 (by omega))
  have Ox1_13 := Lib.hid (Ox1_12.out.apart hb13 (by omega))
  have Og0_13 : Hid (OwnRowU 2 w13 (w5.heap.size + 1) w6.heap.size (.slice ag0 ng0 cg0) (seqFrom (1) E0.length)) := hogg0
  have hz13 : w12.heap.size ≤ w13.heap.size := (hb13.size)
  have HB13 : Hid (Below w.heap.size w w13) := HB12.out.trans ((hb13.below (by first | omega | (simp; omega))).mono (by first | omega | (simp; omega)))
  clear kb0_12 kb1_12 kx0_12 kx1_12 Os0_12 Ox0_12 Ox1_12 Og0_12 HB12 hb13
  have hmpos : 0 ≤ 1 + (E0.length : Int) := by omega
  have hmne : ((1 + (E0.length : Int)) != (1 + (E0.length : Int))) = false := by simp
  go_wp2_with fail
  refine (heldInt64S_b _ E0.length _ _ Og0_13.out.read (by omega) (by omega)).mono ?_
  rintro e w14 ⟨rfl, hb14⟩
  have kb0_14 := cell_keep hb14 kb0_13
  have kb1_14 := cell_keep hb14 kb1_13
  have kx0_14 := cell_keep hb14 kx0_13
  have kx1_14 := cell_keep hb14 kx1_13
  have Os0_14 := Lib.hid (Os0_13.out.keep hb14)
  have Ox0_14 := Lib.hid (Ox0_13.out.keep hb14)
  have Ox1_14 := Lib.hid (Ox1_13.out.keep hb14)
  have Og0_14 := Lib.hid (Og0_13.out.keep hb14)
  have hz14 : w13.heap.size ≤ w14.heap.size := hb14.size
  have HB14 : Hid (Below w.heap.size w w14) := HB13.out.trans (hb14.mono (by first | omega | (simp; omega)))
  clear kb0_13 kb1_13 kx0_13 kx1_13 Os0_13 Ox0_13 Ox1_13 Og0_13 HB13 hb14
  go_wp2
  go_region_held3 (fun wx => wx.cell? ⟨w.heap.size, 0, none⟩ = some (.slice a0 L0.length c0) ∧ wx.cell? ⟨w.heap.size + 1, 0, none⟩ = some (.slice a1 L1.length c1)) (first | exact ⟨kb0_14, kb1_14⟩ | exact ⟨kb0_15r1, kb1_15r1⟩ | exact ⟨kb0_15r2, kb1_15r2⟩ | exact ⟨kb0_15r3, kb1_15r3⟩)
    (first | (go_at_call_of 44 (L0); refine (toGraph_any _ _ _ ((h0.keep HB14.out).keep (Below.refl _ _).drew) hsm0).mono ?_; rintro e w15r1 ⟨nq0, aq0, cq0, rfl, hoq0, hb15r1⟩; have kb0_15r1 := cell_keep hb15r1 (cell_keep (Below.refl _ _).drew kb0_14); have kb1_15r1 := cell_keep hb15r1 (cell_keep (Below.refl _ _).drew kb1_14); have kx0_15r1 := cell_keep hb15r1 (cell_keep (Below.refl _ _).drew kx0_14); have kx1_15r1 := cell_keep hb15r1 (cell_keep (Below.refl _ _).drew kx1_14); have Os0_15r1 := Lib.hid ((Os0_14.out.keep (Below.refl _ _).drew).keep hb15r1); have Ox0_15r1 := Lib.hid ((Ox0_14.out.keep (Below.refl _ _).drew).keep hb15r1); have Ox1_15r1 := Lib.hid ((Ox1_14.out.keep (Below.refl _ _).drew).keep hb15r1); have Og0_15r1 := Lib.hid ((Og0_14.out.keep (Below.refl _ _).drew).keep hb15r1); have Oq0_15r1 : Hid (OwnGridU 2 31 w15r1 (w14.heap.size) w15r1.heap.size (.slice aq0 nq0 cq0) L0) := (hoq0.mono (by first | exact Nat.le_refl _ | simp)).under; have hz15r1 : w14.heap.size ≤ w15r1.heap.size := hb15r1.size; have HB15r1 : Hid (Below w.heap.size w w15r1) := HB14.out.drew.trans (hb15r1.mono HB14.out.size); clear hb15r1) | (go_at_call_of 44 (L1); refine (toGraph_any _ _ _ (h1.keep HB15r1.out) hsm1).mono ?_; rintro e w15r2 ⟨nq1, aq1, cq1, rfl, hoq1, hb15r2⟩; have kb0_15r2 := cell_keep hb15r2 kb0_15r1; have kb1_15r2 := cell_keep hb15r2 kb1_15r1; have kx0_15r2 := cell_keep hb15r2 kx0_15r1; have kx1_15r2 := cell_keep hb15r2 kx1_15r1; have Os0_15r2 := Lib.hid (Os0_15r1.out.keep hb15r2); have Ox0_15r2 := Lib.hid (Ox0_15r1.out.keep hb15r2); have Ox1_15r2 := Lib.hid (Ox1_15r1.out.keep hb15r2); have Og0_15r2 := Lib.hid (Og0_15r1.out.keep hb15r2); have Oq0_15r2 := Lib.hid (Oq0_15r1.out.keep hb15r2); have Oq1_15r2 : Hid (OwnGridU 2 31 w15r2 (w15r1.heap.size) w15r2.heap.size (.slice aq1 nq1 cq1) L1) := (hoq1.mono (by first | exact Nat.le_refl _ | simp)).under; have hz15r2 : w15r1.heap.size ≤ w15r2.heap.size := hb15r2.size; have HB15r2 : Hid (Below w.heap.size w w15r2) := HB15r1.out.trans (hb15r2.mono HB15r1.out.size); clear hb15r2) | (go_at_call 24; refine (implAlikeIn_any _ _ _ _ _ Oq0_15r2.out.read Oq1_15r2.out.read).mono ?_; rintro e w15r3 ⟨nh0, ah0, ch0, rfl, hoh0, hb15r3⟩; have kb0_15r3 := cell_keep hb15r3 kb0_15r2; have kb1_15r3 := cell_keep hb15r3 kb1_15r2; have kx0_15r3 := cell_keep hb15r3 kx0_15r2; have kx1_15r3 := cell_keep hb15r3 kx1_15r2; have Os0_15r3 := Lib.hid (Os0_15r2.out.keep hb15r3); have Ox0_15r3 := Lib.hid (Ox0_15r2.out.keep hb15r3); have Ox1_15r3 := Lib.hid (Ox1_15r2.out.keep hb15r3); have Og0_15r3 := Lib.hid (Og0_15r2.out.keep hb15r3); have Oq0_15r3 := Lib.hid (Oq0_15r2.out.keep hb15r3); have Oq1_15r3 := Lib.hid (Oq1_15r2.out.keep hb15r3); have Oh0_15r3 : Hid (OwnRowU 2 w15r3 (w15r2.heap.size) w15r3.heap.size (.slice ah0 nh0 ch0) E0) := (by have hq := hoh0; rw [← HEQ0.out] at hq; exact (hq.mono (by first | exact Nat.le_refl _ | simp)).under); have hz15r3 : w15r2.heap.size ≤ w15r3.heap.size := hb15r3.size; have HB15r3 : Hid (Below w.heap.size w w15r3) := HB15r2.out.trans (hb15r3.mono HB15r2.out.size); clear hb15r3; rw [← HEQ1.out]))
  clear kb0_14 kb1_14 kx0_14 kx1_14 Os0_14 Ox0_14 Ox1_14 Og0_14 HB14 kb0_15r1 kb1_15r1 kx0_15r1 kx1_15r1 Os0_15r1 Ox0_15r1 Ox1_15r1 Og0_15r1 Oq0_15r1 HB15r1 kb0_15r2 kb1_15r2 kx0_15r2 kx1_15r2 Os0_15r2 Ox0_15r2 Ox1_15r2 Og0_15r2 Oq0_15r2 Oq1_15r2 HB15r2
  go_wp2_with fail
  refine (eqInt64S_b _ _ _ _ _ Oh0_15r3.out.read Os0_15r3.out.read).mono ?_
  rintro e w16 ⟨rfl, hb16⟩
  rw [decide_eq_true rfl]
  have kb0_16 := cell_keep hb16 kb0_15r3
  have kb1_16 := cell_keep hb16 kb1_15r3
  have kx0_16 := cell_keep hb16 kx0_15r3
  have kx1_16 := cell_keep hb16 kx1_15r3
  have Os0_16 := Lib.hid (Os0_15r3.out.keep hb16)
  have Ox0_16 := Lib.hid (Ox0_15r3.out.keep hb16)
  have Ox1_16 := Lib.hid (Ox1_15r3.out.keep hb16)
  have Og0_16 := Lib.hid (Og0_15r3.out.keep hb16)
  have Oh0_16 := Lib.hid (Oh0_15r3.out.keep hb16)
  have hz16 : w15r3.heap.size ≤ w16.heap.size := hb16.size
  have HB16 : Hid (Below w.heap.size w w16) := HB15r3.out.trans (hb16.mono (by first | omega | (simp; omega)))
  clear kb0_15r3 kb1_15r3 kx0_15r3 kx1_15r3 Os0_15r3 Ox0_15r3 Ox1_15r3 Og0_15r3 Oh0_15r3 HB15r3 hb16
  go_wp2_with fail
  refine (heldInt64S_b _ E0.length _ _ Og0_16.out.read (by omega) (by omega)).mono ?_
  rintro e w17 ⟨rfl, hb17⟩
  have kb0_17 := cell_keep hb17 kb0_16
  have kb1_17 := cell_keep hb17 kb1_16
  have kx0_17 := cell_keep hb17 kx0_16
  have kx1_17 := cell_keep hb17 kx1_16
  have Os0_17 := Lib.hid (Os0_16.out.keep hb17)
  have Ox0_17 := Lib.hid (Ox0_16.out.keep hb17)
  have Ox1_17 := Lib.hid (Ox1_16.out.keep hb17)
  have Og0_17 := Lib.hid (Og0_16.out.keep hb17)
  have Oh0_17 := Lib.hid (Oh0_16.out.keep hb17)
  have hz17 : w16.heap.size ≤ w17.heap.size := hb17.size
  have HB17 : Hid (Below w.heap.size w w17) := HB16.out.trans (hb17.mono (by first | omega | (simp; omega)))
  clear kb0_16 kb1_16 kx0_16 kx1_16 Os0_16 Ox0_16 Ox1_16 Og0_16 Oh0_16 HB16 hb17
  go_wp2
  go_ret
  exact ⟨rfl, HB17.out⟩

end Go.Proofs.Ytnjkhiheapmlmaa
