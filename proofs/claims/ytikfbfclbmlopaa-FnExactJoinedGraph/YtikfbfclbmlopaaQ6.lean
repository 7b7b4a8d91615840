/- The texts LawJoinedGraph, Frame, joined. -/
import Derived.Test.YtikfbfclbmlopaaLawTwo
import Derived.Deep.RegionHeld3
import Derived.Test.YtikfbfclbmlopaaRows
import Derived.Test.YtikfbfclbmlopaaBase
import Derived.ProofKit
import Derived.OpenShut
import Derived.ShutString
import Derived.ChangeOld
import Derived.Deep.Matrix
import Derived.Test.YtikfbfclbmlopaaQ5

/- The walk of the law FnExactJoinedGraph, written by program (tools/lawgen2.py) out of the contracts. -/
namespace Go.Proofs.Ytikfbfclbmlopaa
open Go.RowKit

set_option maxHeartbeats 4000000 in
set_option maxRecDepth 100000 in
theorem lawJoinedGraph (v0 : Value) (L0 : List (List Int)) (v1 : Value) (L1 : List (List Int)) (w : World) (h0 : GridAt w v0 L0) (h1 : GridAt w v1 L1) :
    Calls Try.prog 14 #[.agg #[v0], .agg #[v1]] w fun e w' => e = .returned (.bool true) ∧ Below w.heap.size w w' := by
  obtain ⟨a0, c0, rfl⟩ := h0.slice
  obtain ⟨a1, c1, rfl⟩ := h1.slice
  have hsr0 := joL_small L0 L1
  obtain ⟨E0, hE0⟩ : ∃ x, x = joL L0 L1 := ⟨_, rfl⟩
  rw [← hE0] at hsr0
  have HEQ0 := Lib.hid hE0
  clear hE0
  obtain ⟨E1, hE1⟩ : ∃ x, x = bsB L0 L1 := ⟨_, rfl⟩
  have HEQ1 := Lib.hid hE1
  clear hE1
  go_enter Try.func14, Try.ntmps14
  have ha1 : Below w.heap.size w ((w.alloc (.cells #[.slice a0 L0.length c0] 51)).alloc (.cells #[.slice a1 L1.length c1] 51)) := (((Below.refl _ _).alloc (Nat.le_refl _) _).alloc (by first | (simp; done) | (simp; omega)) _)
  go_wp2_with fail
  refine (szGraph_any _ _ _ _ (h0.keep ha1) (by omega) (by omega)).mono ?_
  rintro e w1 ⟨rfl, hb1⟩
  have kb0_1 : w1.cell? ⟨w.heap.size, 0, none⟩ = some (.slice a0 L0.length c0) := by rw [hb1.cell (by first | (simp; done) | (simp; omega))]; go_simp
  have kb1_1 : w1.cell? ⟨w.heap.size + 1, 0, none⟩ = some (.slice a1 L1.length c1) := by rw [hb1.cell (by first | (simp; done) | (simp; omega))]; go_simp
  have hz1 : w.heap.size + 1 + 1 ≤ w1.heap.size := by have hq := hb1.size; simpa using hq
  have HB1 : Hid (Below w.heap.size w w1) := ha1.trans (hb1.mono (by first | (simp; done) | (simp; omega)))
  clear ha1 hb1
  by_cases hs0 : szGrid L0 1048576 < 0
  · go_wp2
    go_ret
    exact ⟨rfl, HB1.out⟩
  have hsm0 := (szGrid_small (L := L0) (left := 1048576) (by omega) (by omega)).1
  have hle0 := (szGrid_small (L := L0) (left := 1048576) (by omega) (by omega)).2
  go_wp2_with fail
  refine (szGraph_any _ _ _ _ (h1.keep HB1.out) (by omega) (by omega)).mono ?_
  rintro e w2 ⟨rfl, hb2⟩
  have kb0_2 := cell_keep hb2 kb0_1
  have kb1_2 := cell_keep hb2 kb1_1
  have hz2 : w1.heap.size ≤ w2.heap.size := hb2.size
  have HB2 : Hid (Below w.heap.size w w2) := HB1.out.trans (hb2.mono (by first | omega | (simp; omega)))
  clear kb0_1 kb1_1 HB1 hb2
  by_cases hs1 : szGrid L1 (szGrid L0 1048576) < 0
  · go_wp2
    go_ret
    exact ⟨rfl, HB2.out⟩
  have hsm1 := (szGrid_small (L := L1) (left := (szGrid L0 1048576)) (by omega) (by omega)).1
  have hle1 := (szGrid_small (L := L1) (left := (szGrid L0 1048576)) (by omega) (by omega)).2
  have HZ3 : Hid (Below w2.heap.size w2 w2.drew) := (Below.refl _ _).drew
  have HY3 : Hid (∀ o, Below w2.heap.size w2 (w2.alloc o).drew) := fun o => ((Below.refl _ _).alloc (Nat.le_refl _) _).drew
  have HR30 : Hid (∀ w', Below w2.heap.size w2 w' → GridAt w' (.slice a0 L0.length c0) L0) := fun w' hb => ((h0.keep HB2.out)).keep hb
  have HR31 : Hid (∀ w', Below w2.heap.size w2 w' → GridAt w' (.slice a1 L1.length c1) L1) := fun w' hb => ((h1.keep HB2.out)).keep hb
  have HS3 : Hid (∀ w', Below w2.heap.size w2 w' → w'.cell? ⟨w.heap.size, 0, none⟩ = some (.slice a0 L0.length c0) ∧ w'.cell? ⟨w.heap.size + 1, 0, none⟩ = some (.slice a1 L1.length c1)) := fun w' hb => ⟨cell_keep hb kb0_2, cell_keep hb kb1_2⟩
  go_wp2_with fail
  go_cut [6, 7] (fun p b wx => CutRes w2 E0 E1 p b wx)
  case first =>
    go_region_held3 (fun wx => wx.cell? ⟨w.heap.size, 0, none⟩ = some (.slice a0 L0.length c0) ∧ wx.cell? ⟨w.heap.size + 1, 0, none⟩ = some (.slice a1 L1.length c1)) (first | exact ⟨kb0_2, kb1_2⟩ | with_reducible exact HS3.out _ HZ3.out | with_reducible exact HS3.out _ (HY3.out _) | with_reducible exact HS3.out _ HA3.out | with_reducible exact HS3.out _ (HA3.out.alloc HA3.out.size _) | with_reducible exact HS3.out _ HB3x.out | with_reducible exact HS3.out _ (HB3x.out.alloc HB3x.out.size _) | with_reducible exact HS3.out _ HC3.out | with_reducible exact HS3.out _ (HC3.out.alloc HC3.out.size _) | with_reducible exact HS3.out _ (HC3.out.setCell hbo3 _))
      (first | (go_at_call_of 48 (L0); refine (toGraph_any _ _ _ (HR30.out _ (by first | with_reducible exact HZ3.out | with_reducible exact HY3.out _)) hsm0).mono ?_; rintro e wA3 ⟨np0, ap0, cp0, rfl, hoA3, hbA3⟩; have HA3 : Hid (Below w2.heap.size w2 wA3) := (by first | exact HZ3.out.trans (hbA3.mono HZ3.out.size) | exact (HY3.out _).trans (hbA3.mono (HY3.out _).size)); have RA3 : Hid (∀ w', Below wA3.heap.size wA3 w' → GridAt w' (.slice ap0 np0 cp0) L0) := (fun w' hb => hoA3.grid.keep hb); (first | (have bxA3 := ((BoxAt.new w2 (.slice none 0 0) 26).keep (Below.refl _ _).drew).keep hbA3; have hbo3 : w2.heap.size ≤ w2.heap.size := Nat.le_refl _) | skip); clear hoA3 hbA3) | (go_at_call_of 48 (L1); refine (toGraph_any _ _ _ (HR31.out _ (by first | with_reducible exact HA3.out | with_reducible exact HA3.out.alloc HA3.out.size _)) hsm1).mono ?_; rintro e wB3 ⟨np1, ap1, cp1, rfl, hoB3, hbB3⟩; have HBA3 : Hid (Below wA3.heap.size wA3 wB3) := (by first | exact hbB3 | exact ((Below.refl _ _).alloc (Nat.le_refl _) _).trans (hbB3.mono (by rw [size_alloc1]; exact Nat.le_succ _))); have HB3x : Hid (Below w2.heap.size w2 wB3) := HA3.out.trans (HBA3.out.mono HA3.out.size); have RB3 : Hid (∀ w', Below wB3.heap.size wB3 w' → GridAt w' (.slice ap1 np1 cp1) L1) := (fun w' hb => hoB3.grid.keep hb); have RA3b : Hid (∀ w', Below wB3.heap.size wB3 w' → GridAt w' (.slice ap0 np0 cp0) L0) := (fun w' hb => (RA3.out _ HBA3.out).keep hb); (first | (have bxB3 := bxA3.keep hbB3; have hlB3 := bxA3.lt) | (have bxB3 := (BoxAt.new wA3 (.slice none 0 0) 26).keep hbB3; have hlB3 : wA3.heap.size < (wA3.alloc (.cells #[.slice none 0 0] 26)).heap.size := (by rw [size_alloc1]; exact Nat.lt_succ_self _); have hbo3 : w2.heap.size ≤ wA3.heap.size := (by first | exact HZ3.out.size | exact HA3.out.size | exact HB3x.out.size)) | skip); clear hoB3 hbB3) | (go_at_call 64; refine (specJoinedGraph_any _ _ _ _ _ (RA3b.out _ (by first | with_reducible exact Below.refl _ _ | with_reducible exact (Below.refl _ _).alloc (Nat.le_refl _) _)) (RB3.out _ (by first | with_reducible exact Below.refl _ _ | with_reducible exact (Below.refl _ _).alloc (Nat.le_refl _) _))).mono ?_; rintro e wC3 ⟨ns0, as0, cs0, rfl, hoC3, hbC3⟩; rw [← HEQ1.out]; rw [← HEQ0.out] at hoC3; have HC3 : Hid (Below w2.heap.size w2 wC3) := (by first | exact HB3x.out.trans (hbC3.mono HB3x.out.size) | exact (HB3x.out.alloc HB3x.out.size _).trans (hbC3.mono (HB3x.out.alloc HB3x.out.size _).size)); have OC3 := Lib.hid hoC3; (first | (have bxC3 := bxB3.keep hbC3; have hlC3 := bxB3.lt) | (have bxC3 := (BoxAt.new wB3 (.slice none 0 0) 26).keep hbC3; have hlC3 : wB3.heap.size < (wB3.alloc (.cells #[.slice none 0 0] 26)).heap.size := (by rw [size_alloc1]; exact Nat.lt_succ_self _); have hbo3 : w2.heap.size ≤ wB3.heap.size := (by first | exact HZ3.out.size | exact HA3.out.size | exact HB3x.out.size)) | skip); (first | (have kx3 := bxC3.1; have fx3 := bxC3.2) | skip); clear hoC3 hbC3))
    all_goals (
      go_wp2_with fail
      go_meet
      first | exact CutRes.first HC3.out OC3.out (by first | exact HB3x.out.size | exact (HB3x.out.alloc HB3x.out.size _).size) bxC3 hlC3 hbo3 | exact CutRes.last HC3.out OC3.out HB3x.out.size)
  case rest =>
    obtain ⟨bo3, as0, ns0, cs0, rfl, rfl, kS3, hO3, hb3, hlt3⟩ := hcut
    rename World => w3
    have kb0_3 := cell_keep hb3 kb0_2
    have kb1_3 := cell_keep hb3 kb1_2
    have Os0_3 : Hid (OwnGridU 2 34 w3 (w2.heap.size) w3.heap.size (.slice as0 ns0 cs0) E0) := hO3
    have hz3 : w2.heap.size ≤ w3.heap.size := hb3.size
    have HB3 : Hid (Below w.heap.size w w3) := HB2.out.trans (hb3.mono (by first | omega | (simp; omega)))
    clear kb0_2 kb1_2 HB2 hb3
    clear HS3 HR30 HR31 HZ3 HY3
    go_wp2_with fail
    refine (toGraph_any _ _ _ (h0.keep HB3.out) hsm0).mono ?_
    rintro e w4 ⟨nx0, ax0, cx0, rfl, hox0, hb4⟩
    have kb0_4 := cell_keep hb4 kb0_3
    have kb1_4 := cell_keep hb4 kb1_3
    have ks0_4 := cell_keep hb4 kS3
    have Os0_4 := Lib.hid (Os0_3.out.keep hb4)
    have Ox0_4 : Hid (OwnGridU 2 34 w4 (w3.heap.size) w4.heap.size (.slice ax0 nx0 cx0) L0) := (hox0.mono (by first | exact Nat.le_refl _ | simp)).under
    have hz4 : w3.heap.size ≤ w4.heap.size := hb4.size
    have HB4 : Hid (Below w.heap.size w w4) := HB3.out.trans (hb4.mono (by first | omega | (simp; omega)))
    clear kb0_3 kb1_3 kS3 Os0_3 HB3 hb4
    have ha5 : Below w4.heap.size w4 (w4.alloc (.cells #[.slice ax0 nx0 cx0] 26)) := ((Below.refl _ _).alloc (Nat.le_refl _) _)
    have kb0_4a := cell_keep ha5 kb0_4
    have kb1_4a := cell_keep ha5 kb1_4
    have ks0_4a := cell_keep ha5 ks0_4
    go_wp2_with fail
    clear kb0_4a kb1_4a ks0_4a
    refine (toGraph_any _ _ _ ((h1.keep HB4.out).keep ha5) hsm1).mono ?_
    rintro e w5 ⟨nx1, ax1, cx1, rfl, hox1, hb5⟩
    have kb0_5 := cell_keep hb5 (cell_keep ha5 kb0_4)
    have kb1_5 := cell_keep hb5 (cell_keep ha5 kb1_4)
    have ks0_5 := cell_keep hb5 (cell_keep ha5 ks0_4)
    have kx0_5 : w5.cell? ⟨w4.heap.size, 0, none⟩ = some (.slice ax0 nx0 cx0) := by rw [hb5.cell (by first | (simp; done) | (simp; omega))]; go_simp
    have Os0_5 := Lib.hid ((Os0_4.out.keep ha5).keep hb5)
    have Ox0_5 := Lib.hid ((Ox0_4.out.keep ha5).keep hb5)
    have Ox1_5 : Hid (OwnGridU 2 34 w5 (w4.heap.size + 1) w5.heap.size (.slice ax1 nx1 cx1) L1) := (hox1.mono (by first | exact Nat.le_refl _ | simp)).under
    have hz5 : w4.heap.size + 1 ≤ w5.heap.size := by have hq := hb5.size; simpa using hq
    have HB5 : Hid (Below w.heap.size w w5) := (HB4.out.trans (ha5.mono HB4.out.size)).trans (hb5.mono (by first | omega | (simp; omega)))
    clear kb0_4 kb1_4 ks0_4 Os0_4 Ox0_4 HB4 ha5 hb5
    have ha6 : Below w5.heap.size w5 (w5.alloc (.cells #[.slice ax1 nx1 cx1] 26)) := ((Below.refl _ _).alloc (Nat.le_refl _) _)
    have kb0_5a := cell_keep ha6 kb0_5
    have kb1_5a := cell_keep ha6 kb1_5
    have ks0_5a := cell_keep ha6 ks0_5
    have kx0_5a := cell_keep ha6 kx0_5
    go_wp2_with fail
    clear kb0_5a kb1_5a ks0_5a kx0_5a
    refine (implJoinedGraph_any _ _ _ _ _ (Ox0_5.out.read.keep ha6) (Ox1_5.out.read.keep ha6)).mono ?_
    rintro e w6 ⟨ng0, ag0, cg0, rfl, hog0, hb6⟩
    rw [← HEQ1.out]
    have kb0_6 := cell_keep hb6 (cell_keep ha6 kb0_5)
    have kb1_6 := cell_keep hb6 (cell_keep ha6 kb1_5)
    have ks0_6 := cell_keep hb6 (cell_keep ha6 ks0_5)
    have kx0_6 := cell_keep hb6 (cell_keep ha6 kx0_5)
    have kx1_6 : w6.cell? ⟨w5.heap.size, 0, none⟩ = some (.slice ax1 nx1 cx1) := by rw [hb6.cell (by first | (simp; done) | (simp; omega))]; go_simp
    have Os0_6 := Lib.hid ((Os0_5.out.keep ha6).keep hb6)
    have Ox0_6 := Lib.hid ((Ox0_5.out.keep ha6).keep hb6)
    have Ox1_6 := Lib.hid ((Ox1_5.out.keep ha6).keep hb6)
    have Og0_6 : Hid (OwnGridU 2 34 w6 (w5.heap.size + 1) w6.heap.size (.slice ag0 ng0 cg0) E0) := (by have hq := hog0; rw [← HEQ0.out] at hq; exact (hq.mono (by first | exact Nat.le_refl _ | simp)).under)
    have hz6 : w5.heap.size + 1 ≤ w6.heap.size := by have hq := hb6.size; simpa using hq
    have HB6 : Hid (Below w.heap.size w w6) := (HB5.out.trans (ha6.mono HB5.out.size)).trans (hb6.mono (by first | omega | (simp; omega)))
    clear kb0_5 kb1_5 ks0_5 kx0_5 Os0_5 Ox0_5 Ox1_5 HB5 ha6 hb6
    have ha7 : Below w6.heap.size w6 (w6.alloc (.cells #[.slice ag0 ng0 cg0] 26)) := ((Below.refl _ _).alloc (Nat.le_refl _) _)
    have kb0_6a := cell_keep ha7 kb0_6
    have kb1_6a := cell_keep ha7 kb1_6
    have ks0_6a := cell_keep ha7 ks0_6
    have kx0_6a := cell_keep ha7 kx0_6
    have kx1_6a := cell_keep ha7 kx1_6
    go_wp2_with fail
    clear kb0_6a kb1_6a ks0_6a kx0_6a kx1_6a
    refine (eqGraph_any _ _ _ _ _ (Og0_6.out.read.keep ha7) (Os0_6.out.read.keep ha7)).mono ?_
    rintro e w7 ⟨rfl, hb7⟩
    rw [decide_eq_true rfl]
    have kb0_7 := cell_keep hb7 (cell_keep ha7 kb0_6)
    have kb1_7 := cell_keep hb7 (cell_keep ha7 kb1_6)
    have ks0_7 := cell_keep hb7 (cell_keep ha7 ks0_6)
    have kx0_7 := cell_keep hb7 (cell_keep ha7 kx0_6)
    have kx1_7 := cell_keep hb7 (cell_keep ha7 kx1_6)
    have kg0_7 : w7.cell? ⟨w6.heap.size, 0, none⟩ = some (.slice ag0 ng0 cg0) := by rw [hb7.cell (by first | (simp; done) | (simp; omega))]; go_simp
    have Os0_7 := Lib.hid ((Os0_6.out.keep ha7).keep hb7)
    have Ox0_7 := Lib.hid ((Ox0_6.out.keep ha7).keep hb7)
    have Ox1_7 := Lib.hid ((Ox1_6.out.keep ha7).keep hb7)
    have Og0_7 := Lib.hid ((Og0_6.out.keep ha7).keep hb7)
    have hz7 : w6.heap.size + 1 ≤ w7.heap.size := by have hq := hb7.size; simpa using hq
    have HB7 : Hid (Below w.heap.size w w7) := (HB6.out.trans (ha7.mono HB6.out.size)).trans (hb7.mono (by first | omega | (simp; omega)))
    clear kb0_6 kb1_6 ks0_6 kx0_6 kx1_6 Os0_6 Ox0_6 Ox1_6 Og0_6 HB6 ha7 hb7
    go_wp2
    go_region_held3 (fun wx => wx.cell? ⟨w.heap.size, 0, none⟩ = some (.slice a0 L0.length c0) ∧ wx.cell? ⟨w4.heap.size, 0, none⟩ = some (.slice ax0 nx0 cx0)) (first | exact ⟨kb0_7, kx0_7⟩ | exact ⟨kb0_8r1, kx0_8r1⟩ | exact ⟨kb0_8r2, kx0_8r2⟩)
      (first | (go_at_call 48; refine (toGraph_any _ _ _ ((h0.keep HB7.out).keep (Below.refl _ _).drew) hsm0).mono ?_; rintro e w8r1 ⟨ny0, ay0, cy0, rfl, hoy0, hb8r1⟩; have kb0_8r1 := cell_keep hb8r1 (cell_keep (Below.refl _ _).drew kb0_7); have kb1_8r1 := cell_keep hb8r1 (cell_keep (Below.refl _ _).drew kb1_7); have ks0_8r1 := cell_keep hb8r1 (cell_keep (Below.refl _ _).drew ks0_7); have kx0_8r1 := cell_keep hb8r1 (cell_keep (Below.refl _ _).drew kx0_7); have kx1_8r1 := cell_keep hb8r1 (cell_keep (Below.refl _ _).drew kx1_7); have kg0_8r1 := cell_keep hb8r1 (cell_keep (Below.refl _ _).drew kg0_7); have Os0_8r1 := Lib.hid ((Os0_7.out.keep (Below.refl _ _).drew).keep hb8r1); have Ox0_8r1 := Lib.hid ((Ox0_7.out.keep (Below.refl _ _).drew).keep hb8r1); have Ox1_8r1 := Lib.hid ((Ox1_7.out.keep (Below.refl _ _).drew).keep hb8r1); have Og0_8r1 := Lib.hid ((Og0_7.out.keep (Below.refl _ _).drew).keep hb8r1); have Oy0_8r1 : Hid (OwnGridU 2 34 w8r1 (w7.heap.size) w8r1.heap.size (.slice ay0 ny0 cy0) L0) := (hoy0.mono (by first | exact Nat.le_refl _ | simp)).under; have hz8r1 : w7.heap.size ≤ w8r1.heap.size := hb8r1.size; have HB8r1 : Hid (Below w.heap.size w w8r1) := HB7.out.drew.trans (hb8r1.mono HB7.out.size); clear hb8r1) | (go_at_call 49; refine (eqGraph_any _ _ _ _ _ Ox0_8r1.out.read Oy0_8r1.out.read).mono ?_; rintro e w8r2 ⟨rfl, hb8r2⟩; have kb0_8r2 := cell_keep hb8r2 kb0_8r1; have kb1_8r2 := cell_keep hb8r2 kb1_8r1; have ks0_8r2 := cell_keep hb8r2 ks0_8r1; have kx0_8r2 := cell_keep hb8r2 kx0_8r1; have kx1_8r2 := cell_keep hb8r2 kx1_8r1; have kg0_8r2 := cell_keep hb8r2 kg0_8r1; have Os0_8r2 := Lib.hid (Os0_8r1.out.keep hb8r2); have Ox0_8r2 := Lib.hid (Ox0_8r1.out.keep hb8r2); have Ox1_8r2 := Lib.hid (Ox1_8r1.out.keep hb8r2); have Og0_8r2 := Lib.hid (Og0_8r1.out.keep hb8r2); have Oy0_8r2 := Lib.hid (Oy0_8r1.out.keep hb8r2); have hz8r2 : w8r1.heap.size ≤ w8r2.heap.size := hb8r2.size; have HB8r2 : Hid (Below w.heap.size w w8r2) := HB8r1.out.trans (hb8r2.mono HB8r1.out.size); clear hb8r2; rw [decide_eq_true rfl]))
    clear kb0_7 kb1_7 ks0_7 kx0_7 kx1_7 kg0_7 Os0_7 Ox0_7 Ox1_7 Og0_7 HB7 kb0_8r1 kb1_8r1 ks0_8r1 kx0_8r1 kx1_8r1 kg0_8r1 Os0_8r1 Ox0_8r1 Ox1_8r1 Og0_8r1 Oy0_8r1 HB8r1
    go_wp2
    go_region_held3 (fun wx => wx.cell? ⟨w.heap.size + 1, 0, none⟩ = some (.slice a1 L1.length c1) ∧ wx.cell? ⟨w5.heap.size, 0, none⟩ = some (.slice ax1 nx1 cx1)) (first | exact ⟨kb1_8r2, kx1_8r2⟩ | exact ⟨kb1_9r1, kx1_9r1⟩ | exact ⟨kb1_9r2, kx1_9r2⟩)
      (first | (go_at_call 48; refine (toGraph_any _ _ _ ((h1.keep HB8r2.out).keep (Below.refl _ _).drew) hsm1).mono ?_; rintro e w9r1 ⟨ny1, ay1, cy1, rfl, hoy1, hb9r1⟩; have kb0_9r1 := cell_keep hb9r1 (cell_keep (Below.refl _ _).drew kb0_8r2); have kb1_9r1 := cell_keep hb9r1 (cell_keep (Below.refl _ _).drew kb1_8r2); have ks0_9r1 := cell_keep hb9r1 (cell_keep (Below.refl _ _).drew ks0_8r2); have kx0_9r1 := cell_keep hb9r1 (cell_keep (Below.refl _ _).drew kx0_8r2); have kx1_9r1 := cell_keep hb9r1 (cell_keep (Below.refl _ _).drew kx1_8r2); have kg0_9r1 := cell_keep hb9r1 (cell_keep (Below.refl _ _).drew kg0_8r2); have Os0_9r1 := Lib.hid ((Os0_8r2.out.keep (Below.refl _ _).drew).keep hb9r1); have Ox0_9r1 := Lib.hid ((Ox0_8r2.out.keep (Below.refl _ _).drew).keep hb9r1); have Ox1_9r1 := Lib.hid ((Ox1_8r2.out.keep (Below.refl _ _).drew).keep hb9r1); have Og0_9r1 := Lib.hid ((Og0_8r2.out.keep (Below.refl _ _).drew).keep hb9r1); have Oy1_9r1 : Hid (OwnGridU 2 34 w9r1 (w8r2.heap.size) w9r1.heap.size (.slice ay1 ny1 cy1) L1) := (hoy1.mono (by first | exact Nat.le_refl _ | simp)).under; have hz9r1 : w8r2.heap.size ≤ w9r1.heap.size := hb9r1.size; have HB9r1 : Hid (Below w.heap.size w w9r1) := HB8r2.out.drew.trans (hb9r1.mono HB8r2.out.size); clear hb9r1) | (go_at_call 49; refine (eqGraph_any _ _ _ _ _ Ox1_9r1.out.read Oy1_9r1.out.read).mono ?_; rintro e w9r2 ⟨rfl, hb9r2⟩; have kb0_9r2 := cell_keep hb9r2 kb0_9r1; have kb1_9r2 := cell_keep hb9r2 kb1_9r1; have ks0_9r2 := cell_keep hb9r2 ks0_9r1; have kx0_9r2 := cell_keep hb9r2 kx0_9r1; have kx1_9r2 := cell_keep hb9r2 kx1_9r1; have kg0_9r2 := cell_keep hb9r2 kg0_9r1; have Os0_9r2 := Lib.hid (Os0_9r1.out.keep hb9r2); have Ox0_9r2 := Lib.hid (Ox0_9r1.out.keep hb9r2); have Ox1_9r2 := Lib.hid (Ox1_9r1.out.keep hb9r2); have Og0_9r2 := Lib.hid (Og0_9r1.out.keep hb9r2); have Oy1_9r2 := Lib.hid (Oy1_9r1.out.keep hb9r2); have hz9r2 : w9r1.heap.size ≤ w9r2.heap.size := hb9r2.size; have HB9r2 : Hid (Below w.heap.size w w9r2) := HB9r1.out.trans (hb9r2.mono HB9r1.out.size); clear hb9r2; rw [decide_eq_true rfl]))
    clear kb0_8r2 kb1_8r2 ks0_8r2 kx0_8r2 kx1_8r2 kg0_8r2 Os0_8r2 Ox0_8r2 Ox1_8r2 Og0_8r2 HB8r2 kb0_9r1 kb1_9r1 ks0_9r1 kx0_9r1 kx1_9r1 kg0_9r1 Os0_9r1 Ox0_9r1 Ox1_9r1 Og0_9r1 Oy1_9r1 HB9r1
    have hone : (0 : Int) ≤ 1 := by omega
    have htt0 := totTo_le hsm0.2 L0.length (Nat.le_refl _)
    have htu0 : 1048576 * L0.length ≤ 1048576 * 1048576 := by have := hsm0.1; omega
    have htt1 := totTo_le hsm1.2 L1.length (Nat.le_refl _)
    have htu1 : 1048576 * L1.length ≤ 1048576 * 1048576 := by have := hsm1.1; omega
    go_wp2_with fail
    refine (markGraph_any _ _ (w3.heap.size) w4.heap.size _ _ Ox0_9r2.out (by omega) (by omega) hsm0).mono ?_
    rintro e w10 ⟨rfl, hogx0, hb10⟩
    have kb0_10 := cell_apart kb0_9r2 hb10 (by dsimp only; omega)
    have kb1_10 := cell_apart kb1_9r2 hb10 (by dsimp only; omega)
    have ks0_10 := cell_apart ks0_9r2 hb10 (by dsimp only; omega)
    have kx0_10 := cell_apart kx0_9r2 hb10 (by dsimp only; omega)
    have kx1_10 := cell_apart kx1_9r2 hb10 (by dsimp only; omega)
    have kg0_10 := cell_apart kg0_9r2 hb10 (by dsimp only; omega)
    have Os0_10 := Lib.hid (Os0_9r2.out.apart hb10 (by omega))
    have Ox1_10 := Lib.hid (Ox1_9r2.out.apart hb10 (by omega))
    have Og0_10 := Lib.hid (Og0_9r2.out.apart hb10 (by omega))
    have Ox0_10 : Hid (OwnGridU 2 34 w10 (w3.heap.size) w4.heap.size (.slice ax0 nx0 cx0) (marksG L0 (1))) := hogx0
    have hz10 : w9r2.heap.size ≤ w10.heap.size := (hb10.size)
    have HB10 : Hid (Below w.heap.size w w10) := HB9r2.out.trans ((hb10.below (by first | omega | (simp; omega))).mono (by first | omega | (simp; omega)))
    clear kb0_9r2 kb1_9r2 ks0_9r2 kx0_9r2 kx1_9r2 kg0_9r2 Os0_9r2 Ox1_9r2 Og0_9r2 Ox0_9r2 HB9r2 hb10
    go_wp2_with fail
    refine (markGraph_any _ _ (w4.heap.size + 1) w5.heap.size _ _ Ox1_10.out (by omega) (by omega) hsm1).mono ?_
    rintro e w11 ⟨rfl, hogx1, hb11⟩
    have kb0_11 := cell_apart kb0_10 hb11 (by dsimp only; omega)
    have kb1_11 := cell_apart kb1_10 hb11 (by dsimp only; omega)
    have ks0_11 := cell_apart ks0_10 hb11 (by dsimp only; omega)
    have kx0_11 := cell_apart kx0_10 hb11 (by dsimp only; omega)
    have kx1_11 := cell_apart kx1_10 hb11 (by dsimp only; omega)
    have kg0_11 := cell_apart kg0_10 hb11 (by dsimp only; omega)
    have Os0_11 := Lib.hid (Os0_10.out.apart hb11 (by omega))
    have Og0_11 := Lib.hid (Og0_10.out.apart hb11 (by omega))
    have Ox0_11 := Lib.hid (Ox0_10.out.apart hb11 (by omega))
    have Ox1_11 : Hid (OwnGridU 2 34 w11 (w4.heap.size + 1) w5.heap.size (.slice ax1 nx1 cx1) (marksG L1 (1 + (totTo L0 L0.length : Int)))) := hogx1
    have hz11 : w10.heap.size ≤ w11.heap.size := (hb11.size)
    have HB11 : Hid (Below w.heap.size w w11) := HB10.out.trans ((hb11.below (by first | omega | (simp; omega))).mono (by first | omega | (simp; omega)))
    clear kb0_10 kb1_10 ks0_10 kx0_10 kx1_10 kg0_10 Os0_10 Og0_10 Ox0_10 Ox1_10 HB10 hb11
    have hkpos : 0 ≤ 1 + (totTo L0 L0.length : Int) + (totTo L1 L1.length : Int) := by omega
    go_wp2_with fail
    refine (eqGraph_any _ _ _ _ _ Og0_11.out.read Os0_11.out.read).mono ?_
    rintro e w12 ⟨rfl, hb12⟩
    rw [decide_eq_true rfl]
    have kb0_12 := cell_keep hb12 kb0_11
    have kb1_12 := cell_keep hb12 kb1_11
    have ks0_12 := cell_keep hb12 ks0_11
    have kx0_12 := cell_keep hb12 kx0_11
    have kx1_12 := cell_keep hb12 kx1_11
    have kg0_12 := cell_keep hb12 kg0_11
    have Os0_12 := Lib.hid (Os0_11.out.keep hb12)
    have Og0_12 := Lib.hid (Og0_11.out.keep hb12)
    have Ox0_12 := Lib.hid (Ox0_11.out.keep hb12)
    have Ox1_12 := Lib.hid (Ox1_11.out.keep hb12)
    have hz12 : w11.heap.size ≤ w12.heap.size := hb12.size
    have HB12 : Hid (Below w.heap.size w w12) := HB11.out.trans (hb12.mono (by first | omega | (simp; omega)))
    clear kb0_11 kb1_11 ks0_11 kx0_11 kx1_11 kg0_11 Os0_11 Og0_11 Ox0_11 Ox1_11 HB11 hb12
    have hrt0 := totTo_le hsr0.2 E0.length (Nat.le_refl _)
    have hru0 : 1048576 * E0.length ≤ 1048576 * 1048576 := by have := hsr0.1; omega
    go_wp2_with fail
    refine (markGraph_any _ _ (w5.heap.size + 1) w6.heap.size _ _ Og0_12.out (by omega) (by omega) hsr0).mono ?_
    rintro e w13 ⟨rfl, hogg0, hb13⟩
    have kb0_13 := cell_apart kb0_12 hb13 (by dsimp only; omega)
    have kb1_13 := cell_apart kb1_12 hb13 (by dsimp only; omega)
    have ks0_13 := cell_apart ks0_12 hb13 (by dsimp only; omega)
    have kx0_13 := cell_apart kx0_12 hb13 (by dsimp only; omega)
    have kx1_13 := cell_apart kx1_12 hb13 (by dsimp only; omega)
    have kg0_13 := cell_apart kg0_12 hb13 (by dsimp only; omega)
    have Os0_13 := Lib.hid (Os0_12.out.apart hb13 (by omega))
    have Ox0_13 := Lib.hid (Ox0_12.out.apart hb13 (by omega))
    have Ox1_13 := Lib.hid (Ox1_12.out.apart hb13 (by omega))
    have Og0_13 : Hid (OwnGridU 2 34 w13 (w5.heap.size + 1) w6.heap.size (.slice ag0 ng0 cg0) (marksG E0 (1))) := hogg0
    have hz13 : w12.heap.size ≤ w13.heap.size := (hb13.size)
    have HB13 : Hid (Below w.heap.size w w13) := HB12.out.trans ((hb13.below (by first | omega | (simp; omega))).mono (by first | omega | (simp; omega)))
    clear kb0_12 kb1_12 ks0_12 kx0_12 kx1_12 kg0_12 Os0_12 Ox0_12 Ox1_12 Og0_12 HB12 hb13
    have hmpos : 0 ≤ 1 + (totTo E0 E0.length : Int) := by omega
    have hmne : ((1 + (totTo E0 E0.length : Int)) != (1 + (totTo E0 E0.length : Int))) = false := by simp
    go_wp2_with fail
    refine (heldGraph_any _ E0 _ _ Og0_13.out.read (by omega) (by omega) hsr0).mono ?_
    rintro e w14 ⟨rfl, hb14⟩
    have kb0_14 := cell_keep hb14 kb0_13
    have kb1_14 := cell_keep hb14 kb1_13
    have ks0_14 := cell_keep hb14 ks0_13
    have kx0_14 := cell_keep hb14 kx0_13
    have kx1_14 := cell_keep hb14 kx1_13
    have kg0_14 := cell_keep hb14 kg0_13
    have Os0_14 := Lib.hid (Os0_13.out.keep hb14)
    have Ox0_14 := Lib.hid (Ox0_13.out.keep hb14)
    have Ox1_14 := Lib.hid (Ox1_13.out.keep hb14)
    have Og0_14 := Lib.hid (Og0_13.out.keep hb14)
    have hz14 : w13.heap.size ≤ w14.heap.size := hb14.size
    have HB14 : Hid (Below w.heap.size w w14) := HB13.out.trans (hb14.mono (by first | omega | (simp; omega)))
    clear kb0_13 kb1_13 ks0_13 kx0_13 kx1_13 kg0_13 Os0_13 Ox0_13 Ox1_13 Og0_13 HB13 hb14
    have HZ15 : Hid (Below w14.heap.size w14 w14.drew) := (Below.refl _ _).drew
    have HY15 : Hid (∀ o, Below w14.heap.size w14 (w14.alloc o).drew) := fun o => ((Below.refl _ _).alloc (Nat.le_refl _) _).drew
    have HR150 : Hid (∀ w', Below w14.heap.size w14 w' → GridAt w' (.slice a0 L0.length c0) L0) := fun w' hb => ((h0.keep HB14.out)).keep hb
    have HR151 : Hid (∀ w', Below w14.heap.size w14 w' → GridAt w' (.slice a1 L1.length c1) L1) := fun w' hb => ((h1.keep HB14.out)).keep hb
    have HS15 : Hid (∀ w', Below w14.heap.size w14 w' → w'.cell? ⟨w.heap.size, 0, none⟩ = some (.slice a0 L0.length c0) ∧ w'.cell? ⟨w.heap.size + 1, 0, none⟩ = some (.slice a1 L1.length c1)) := fun w' hb => ⟨cell_keep hb kb0_14, cell_keep hb kb1_14⟩
    go_wp2_with fail
    go_cut [15, 16] (fun p b wx => CutRes w14 E0 E1 p b wx)
    case first =>
      go_region_held3 (fun wx => wx.cell? ⟨w.heap.size, 0, none⟩ = some (.slice a0 L0.length c0) ∧ wx.cell? ⟨w.heap.size + 1, 0, none⟩ = some (.slice a1 L1.length c1)) (first | exact ⟨kb0_14, kb1_14⟩ | with_reducible exact HS15.out _ HZ15.out | with_reducible exact HS15.out _ (HY15.out _) | with_reducible exact HS15.out _ HA15.out | with_reducible exact HS15.out _ (HA15.out.alloc HA15.out.size _) | with_reducible exact HS15.out _ HB15x.out | with_reducible exact HS15.out _ (HB15x.out.alloc HB15x.out.size _) | with_reducible exact HS15.out _ HC15.out | with_reducible exact HS15.out _ (HC15.out.alloc HC15.out.size _) | with_reducible exact HS15.out _ (HC15.out.setCell hbo15 _))
        (first | (go_at_call_of 48 (L0); refine (toGraph_any _ _ _ (HR150.out _ (by first | with_reducible exact HZ15.out | with_reducible exact HY15.out _)) hsm0).mono ?_; rintro e wA15 ⟨nq0, aq0, cq0, rfl, hoA15, hbA15⟩; have HA15 : Hid (Below w14.heap.size w14 wA15) := (by first | exact HZ15.out.trans (hbA15.mono HZ15.out.size) | exact (HY15.out _).trans (hbA15.mono (HY15.out _).size)); have RA15 : Hid (∀ w', Below wA15.heap.size wA15 w' → GridAt w' (.slice aq0 nq0 cq0) L0) := (fun w' hb => hoA15.grid.keep hb); (first | (have bxA15 := ((BoxAt.new w14 (.slice none 0 0) 26).keep (Below.refl _ _).drew).keep hbA15; have hbo15 : w14.heap.size ≤ w14.heap.size := Nat.le_refl _) | skip); clear hoA15 hbA15) | (go_at_call_of 48 (L1); refine (toGraph_any _ _ _ (HR151.out _ (by first | with_reducible exact HA15.out | with_reducible exact HA15.out.alloc HA15.out.size _)) hsm1).mono ?_; rintro e wB15 ⟨nq1, aq1, cq1, rfl, hoB15, hbB15⟩; have HBA15 : Hid (Below wA15.heap.size wA15 wB15) := (by first | exact hbB15 | exact ((Below.refl _ _).alloc (Nat.le_refl _) _).trans (hbB15.mono (by rw [size_alloc1]; exact Nat.le_succ _))); have HB15x : Hid (Below w14.heap.size w14 wB15) := HA15.out.trans (HBA15.out.mono HA15.out.size); have RB15 : Hid (∀ w', Below wB15.heap.size wB15 w' → GridAt w' (.slice aq1 nq1 cq1) L1) := (fun w' hb => hoB15.grid.keep hb); have RA15b : Hid (∀ w', Below wB15.heap.size wB15 w' → GridAt w' (.slice aq0 nq0 cq0) L0) := (fun w' hb => (RA15.out _ HBA15.out).keep hb); (first | (have bxB15 := bxA15.keep hbB15; have hlB15 := bxA15.lt) | (have bxB15 := (BoxAt.new wA15 (.slice none 0 0) 26).keep hbB15; have hlB15 : wA15.heap.size < (wA15.alloc (.cells #[.slice none 0 0] 26)).heap.size := (by rw [size_alloc1]; exact Nat.lt_succ_self _); have hbo15 : w14.heap.size ≤ wA15.heap.size := (by first | exact HZ15.out.size | exact HA15.out.size | exact HB15x.out.size)) | skip); clear hoB15 hbB15) | (go_at_call 65; refine (implJoinedGraph_any _ _ _ _ _ (RA15b.out _ (by first | with_reducible exact Below.refl _ _ | with_reducible exact (Below.refl _ _).alloc (Nat.le_refl _) _)) (RB15.out _ (by first | with_reducible exact Below.refl _ _ | with_reducible exact (Below.refl _ _).alloc (Nat.le_refl _) _))).mono ?_; rintro e wC15 ⟨nh0, ah0, ch0, rfl, hoC15, hbC15⟩; rw [← HEQ1.out]; rw [← HEQ0.out] at hoC15; have HC15 : Hid (Below w14.heap.size w14 wC15) := (by first | exact HB15x.out.trans (hbC15.mono HB15x.out.size) | exact (HB15x.out.alloc HB15x.out.size _).trans (hbC15.mono (HB15x.out.alloc HB15x.out.size _).size)); have OC15 := Lib.hid hoC15; (first | (have bxC15 := bxB15.keep hbC15; have hlC15 := bxB15.lt) | (have bxC15 := (BoxAt.new wB15 (.slice none 0 0) 26).keep hbC15; have hlC15 : wB15.heap.size < (wB15.alloc (.cells #[.slice none 0 0] 26)).heap.size := (by rw [size_alloc1]; exact Nat.lt_succ_self _); have hbo15 : w14.heap.size ≤ wB15.heap.size := (by first | exact HZ15.out.size | exact HA15.out.size | exact HB15x.out.size)) | skip); (first | (have kx15 := bxC15.1; have fx15 := bxC15.2) | skip); clear hoC15 hbC15))
      all_goals (
        go_wp2_with fail
        go_meet
        first | exact CutRes.first HC15.out OC15.out (by first | exact HB15x.out.size | exact (HB15x.out.alloc HB15x.out.size _).size) bxC15 hlC15 hbo15 | exact CutRes.last HC15.out OC15.out HB15x.out.size)
    case rest =>
      obtain ⟨bo15, ah0, nh0, ch0, rfl, rfl, kS15, hO15, hb15, hlt15⟩ := hcut
      rename World => w15
      have kb0_15 := cell_keep hb15 kb0_14
      have kb1_15 := cell_keep hb15 kb1_14
      have ks0_15 := cell_keep hb15 ks0_14
      have kx0_15 := cell_keep hb15 kx0_14
      have kx1_15 := cell_keep hb15 kx1_14
      have kg0_15 := cell_keep hb15 kg0_14
      have Os0_15 := Lib.hid (Os0_14.out.keep hb15)
      have Ox0_15 := Lib.hid (Ox0_14.out.keep hb15)
      have Ox1_15 := Lib.hid (Ox1_14.out.keep hb15)
      have Og0_15 := Lib.hid (Og0_14.out.keep hb15)
      have Oh0_15 : Hid (OwnGridU 2 34 w15 (w14.heap.size) w15.heap.size (.slice ah0 nh0 ch0) E0) := hO15
      have hz15 : w14.heap.size ≤ w15.heap.size := hb15.size
      have HB15 : Hid (Below w.heap.size w w15) := HB14.out.trans (hb15.mono (by first | omega | (simp; omega)))
      clear kb0_14 kb1_14 ks0_14 kx0_14 kx1_14 kg0_14 Os0_14 Ox0_14 Ox1_14 Og0_14 HB14 hb15
      clear HS15 HR150 HR151 HZ15 HY15
      go_wp2_with fail
      refine (eqGraph_any _ _ _ _ _ Oh0_15.out.read Os0_15.out.read).mono ?_
      rintro e w16 ⟨rfl, hb16⟩
      rw [decide_eq_true rfl]
      have kb0_16 := cell_keep hb16 kb0_15
      have kb1_16 := cell_keep hb16 kb1_15
      have ks0_16 := cell_keep hb16 ks0_15
      have kx0_16 := cell_keep hb16 kx0_15
      have kx1_16 := cell_keep hb16 kx1_15
      have kg0_16 := cell_keep hb16 kg0_15
      have kh0_16 := cell_keep hb16 kS15
      have Os0_16 := Lib.hid (Os0_15.out.keep hb16)
      have Ox0_16 := Lib.hid (Ox0_15.out.keep hb16)
      have Ox1_16 := Lib.hid (Ox1_15.out.keep hb16)
      have Og0_16 := Lib.hid (Og0_15.out.keep hb16)
      have Oh0_16 := Lib.hid (Oh0_15.out.keep hb16)
      have hz16 : w15.heap.size ≤ w16.heap.size := hb16.size
      have HB16 : Hid (Below w.heap.size w w16) := HB15.out.trans (hb16.mono (by first | omega | (simp; omega)))
      clear kb0_15 kb1_15 ks0_15 kx0_15 kx1_15 kg0_15 kS15 Os0_15 Ox0_15 Ox1_15 Og0_15 Oh0_15 HB15 hb16
      go_wp2_with fail
      refine (heldGraph_any _ E0 _ _ Og0_16.out.read (by omega) (by omega) hsr0).mono ?_
      rintro e w17 ⟨rfl, hb17⟩
      have kb0_17 := cell_keep hb17 kb0_16
      have kb1_17 := cell_keep hb17 kb1_16
      have ks0_17 := cell_keep hb17 ks0_16
      have kx0_17 := cell_keep hb17 kx0_16
      have kx1_17 := cell_keep hb17 kx1_16
      have kg0_17 := cell_keep hb17 kg0_16
      have kh0_17 := cell_keep hb17 kh0_16
      have Os0_17 := Lib.hid (Os0_16.out.keep hb17)
      have Ox0_17 := Lib.hid (Ox0_16.out.keep hb17)
      have Ox1_17 := Lib.hid (Ox1_16.out.keep hb17)
      have Og0_17 := Lib.hid (Og0_16.out.keep hb17)
      have Oh0_17 := Lib.hid (Oh0_16.out.keep hb17)
      have hz17 : w16.heap.size ≤ w17.heap.size := hb17.size
      have HB17 : Hid (Below w.heap.size w w17) := HB16.out.trans (hb17.mono (by first | omega | (simp; omega)))
      clear kb0_16 kb1_16 ks0_16 kx0_16 kx1_16 kg0_16 kh0_16 Os0_16 Ox0_16 Ox1_16 Og0_16 Oh0_16 HB16 hb17
      go_wp2
      go_ret
      exact ⟨rfl, HB17.out⟩

end Go.Proofs.Ytikfbfclbmlopaa

/- From what a row's form reads as data to our words: a slice of int64, a slice of such slices, a graph. -/
namespace Go.Proofs.Ytikfbfclbmlopaa
open Go.ChangeShapes Go.WideShapes Go.ChangeAt Go.RowKit Go.Deep

theorem own : ownKnob Try.prog.godebug = none := by kernel_rfl
theorem laidOut : laidOutB Try.prog = true := by kernel_rfl

theorem i64_wf {n : Int} (h : (Lit.int .i64 n).wf = true) : I64 n := by
  have := bounds_i64 h
  unfold I64
  omega

section
variable {H : Type} {enc : TypeId × Value → H} {P : Program} {w : World} {base : Nat} {held : Bool}

theorem addr_none {a : Addr} {i : Nat} {v : Value} (h : w.cell? (a.add i) = some v) (hp : i = 0) : a.spot = none := by
  subst hp
  simpa [Addr.add] using World.cell?_spot h

theorem addr_form {a : Addr} (h : a.spot = none) (i : Nat) : a.add i = ⟨a.block, a.off + i, none⟩ := by
  obtain ⟨b, o, s⟩ := a
  simp at h
  subst h
  unfold Addr.add
  split
  · rename_i e; subst e; rfl
  · rfl

theorem rowAt_of {A : Option Addr} {n c : Nat} {zs : List Int} (hlen : zs.length = n) (hm : n ≤ maxLen) (hc : n ≤ c) (hcm : c ≤ maxLen) (hi : ∀ z ∈ zs, I64 z) (h0 : A = none → c = 0) (hcell : ∀ a, A = some a → ∀ i, i < n → w.cell? (a.add i) = some (.int .i64 (nth zs i))) : RowAt w (.slice A n c) zs := by
  refine ⟨hi, by omega, ?_⟩
  by_cases hz : n = 0
  · subst hz
    exact Or.inl ⟨List.length_eq_zero_iff.1 hlen, A, c, rfl, h0⟩
  · cases A with
    | none => exact absurd (h0 rfl) (by omega)
    | some a =>
      have hs := addr_none (hcell a rfl 0 (by omega)) rfl
      refine Or.inr ⟨a.block, a.off, c, ?_, by omega, hcm, fun i hi' => ?_⟩
      · obtain ⟨b, o, s⟩ := a
        simp at hs
        subst hs
        rw [hlen]
      · rw [← addr_form hs]
        exact hcell a rfl i (by omega)

theorem row_of_trod {t e : TypeId} {fuel : Nat} {v : Value} {x : DataW H × List MemPlace} (ht : P.underlying t = some (.slice e)) (he : P.underlying e = some (.int .i64)) (ce : P.cellsOf e = 1)
    (h : DataW.trod enc P w base (fun _ => true) held fuel t [v] = some x) : ∃ xs, RowAt w v xs := by
  rcases open_ints ht he ce h with ⟨hcs, _⟩ | ⟨a, l, c, zs, hcs, _, hl, hm, hz, _, hcell, hwz⟩
  · simp at hcs
    subst hcs
    exact ⟨[], by simp, by simp, Or.inl ⟨rfl, none, 0, rfl, fun _ => rfl⟩⟩
  · simp at hcs
    subst hcs
    simp only [if_true] at hz
    refine ⟨zs.take l, rowAt_of (by simp; omega) (by omega) hl hm (fun z hzz => i64_wf (hwz z (List.mem_of_mem_take hzz))) (by simp) (fun a' e i hi => ?_)⟩
    cases e
    rw [hcell i (by omega)]
    simp [nth, hi]

theorem grid_of_trod {t e q : TypeId} {fuel : Nat} {v : Value} {x : DataW H × List MemPlace} (ht : P.underlying t = some (.slice e)) (he : P.underlying e = some (.slice q)) (hq : P.underlying q = some (.int .i64)) (ce : P.cellsOf e = 1) (cq : P.cellsOf q = 1)
    (h : DataW.trod enc P w base (fun _ => true) held fuel t [v] = some x) : ∃ L, GridAt w v L := by
  rcases open_int_rows ht he hq ce cq h with ⟨hcs, _⟩ | ⟨a, len, cap, A, Ln, C, Z, hcs, _, hl, hm, _, hr⟩
  · simp at hcs
    subst hcs
    exact ⟨[], by simp, Or.inl ⟨rfl, none, 0, rfl, fun _ => rfl⟩⟩
  · simp at hcs
    subst hcs
    refine ⟨(List.range len).map (fun r => (Z r).take (Ln r)), by simp; omega, ?_⟩
    by_cases h0 : len = 0
    · subst h0
      exact Or.inl ⟨by simp, _, cap, rfl, fun h => by cases h⟩
    · have hs := addr_none (hr 0 (by omega)).1 rfl
      refine Or.inr ⟨a.block, a.off, cap, ?_, by simp; exact hl, hm, fun i hi => ?_⟩
      · obtain ⟨b, o, s⟩ := a
        simp at hs
        subst hs
        simp
      · have hi' : i < len := by simpa using hi
        obtain ⟨r1, r2, r3, r4, r5, r6, r7⟩ := hr i (by omega)
        refine ⟨.slice (A i) (Ln i) (C i), by rw [← addr_form hs]; exact r1, ?_⟩
        have e1 : nthR ((List.range len).map (fun r => (Z r).take (Ln r))) i = (Z i).take (Ln i) := by simp [nthR, hi']
        rw [e1]
        refine rowAt_of (by simp; omega) (by omega) r2 r3 (fun z hzz => i64_wf (r5 z (List.mem_of_mem_take hzz))) (fun e => r6 e) (fun a' e j hj => ?_)
        rw [(r7 a' e).2 j (by omega)]
        simp [nth, hj]

/-- A struct of one field of one cell, by value. -/
theorem open_agg1 {spare : Nat → Bool} {r : Reach} {b0 : Nat} {t : TypeId} {f0 : Field} {v : Value} {d : DataW H} {p : List MemPlace} (hs : P.underlying t = some (.struct #[f0])) (h0 : f0.offset = 0) (h1 : P.cellsOf f0.type = 1) (hC : P.cellsOf t = 1)
    (hv : Value.okWide P w r b0 t v) (h : DataW.Trod enc P w base spare held t v d p) :
    ∃ (v0 : Value) (y0 : DataW H × List MemPlace) (n : Nat), v = .agg #[v0] ∧ DataW.trod enc P w base spare held n f0.type [v0] = some y0 := by
  obtain ⟨cs, rfl, hsz⟩ := okWide_struct hs hv
  have h2 : cs.size = 1 := hsz.trans hC
  obtain ⟨c0, rfl⟩ : ∃ c, cs = #[c] := by
    obtain ⟨l⟩ := cs
    match l, h2 with
    | [c], _ => exact ⟨c, rfl⟩
  obtain ⟨fuel, hf⟩ := h
  obtain ⟨y0, n, _, _, h3⟩ := trod_struct1 hs hf
  exact ⟨c0, y0, n, rfl, by simpa [Value.cells, h0, h1] using h3⟩

end

theorem Try.cells24 : Try.prog.cellsOf 24 = 1 := by kernel_rfl
theorem Try.cells34 : Try.prog.cellsOf 34 = 1 := by kernel_rfl
theorem Try.cells2 : Try.prog.cellsOf 2 = 1 := by kernel_rfl
theorem Try.cells38 : Try.prog.cellsOf 51 = 1 := by kernel_rfl

set_option maxRecDepth 100000 in
/-- An argument of type laws.Graph, opened. -/
theorem open_graph {H : Type} {enc : TypeId × Value → H} {W : World} {b0 : Nat} {v : Value} {d : DataW H} {p : List MemPlace} (hv : Value.okWide Try.prog W .any b0 51 v) (h : DataW.Trod enc Try.prog W 0 (fun _ => true) true 51 v d p) :
    ∃ g L, v = .agg #[g] ∧ GridAt W g L := by
  obtain ⟨g, y0, n, rfl, h0⟩ := open_agg1 Try.underlying51 rfl Try.cells24 Try.cells38 hv h
  obtain ⟨L, hL⟩ := grid_of_trod Try.underlying24 Try.underlying34 Try.underlying2 Try.cells34 Try.cells2 h0
  exact ⟨g, L, rfl, hL⟩

set_option maxRecDepth 100000 in
/-- An argument of type []int64, opened. -/
theorem open_row {H : Type} {enc : TypeId × Value → H} {W : World} {b0 : Nat} {v : Value} {d : DataW H} {p : List MemPlace} (hv : Value.okWide Try.prog W .any b0 34 v) (h : DataW.Trod enc Try.prog W 0 (fun _ => true) true 34 v d p) :
    ∃ L, RowAt W v L := by
  obtain ⟨a0, len, cap, rfl⟩ := okWide_slice Try.underlying34 hv
  obtain ⟨fuel, hf⟩ := h
  obtain ⟨L, hL⟩ := row_of_trod Try.underlying34 Try.underlying2 Try.cells2 hf
  exact ⟨L, hL⟩

set_option maxRecDepth 100000 in
/-- An argument of type [][]int64, opened. -/
theorem open_grid {H : Type} {enc : TypeId × Value → H} {W : World} {b0 : Nat} {v : Value} {d : DataW H} {p : List MemPlace} (hv : Value.okWide Try.prog W .any b0 24 v) (h : DataW.Trod enc Try.prog W 0 (fun _ => true) true 24 v d p) :
    ∃ L, GridAt W v L := by
  obtain ⟨a0, len, cap, rfl⟩ := okWide_slice Try.underlying24 hv
  obtain ⟨fuel, hf⟩ := h
  obtain ⟨L, hL⟩ := grid_of_trod Try.underlying24 Try.underlying34 Try.underlying2 Try.cells34 Try.cells2 hf
  exact ⟨L, hL⟩

end Go.Proofs.Ytikfbfclbmlopaa
