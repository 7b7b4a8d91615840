/- Walks: the program's GraphOk; the law FnExactGraphOk. -/
import Derived.Test.YtehdpfbicifngaaB5
namespace Go.Proofs.Ytehdpfbicifngaa
open Go.RowKit

theorem netBlk_new (w : World) (n : Nat) (M : Nat → Nat) : NetBlk 60 (w.alloc (.cells (netArr n M) 60)) w.heap.size n M := heap_alloc_new _ _

set_option maxHeartbeats 400000 in
theorem implGraphOk_any (v : Value) (L : List (List Int)) (w : World) (h : GridAt w v L) :
    Calls Try.prog 16 #[.agg #[v]] w fun e w' => e = .returned (.bool (decide (GraphP L))) ∧ Below w.heap.size w w' := by
  obtain ⟨a0, c0, rfl⟩ := h.slice
  have hbel : Below w.heap.size w (w.alloc (.cells #[.slice a0 L.length c0] 26)) := (Below.refl _ _).alloc (Nat.le_refl _) _
  have hk := h.keep hbel
  have HB := Lib.hid hbel
  clear hbel
  go_enter Try.func16, Try.ntmps16
  go_wp2_with fail
  refine (netOf_any _ _ _ hk).mono ?_
  rintro e w1 ⟨rfl, hb1⟩
  have HB1 : Hid (Below w.heap.size w w1) := HB.out.trans (hb1.mono (by simp))
  have hz : w.heap.size ≤ w1.heap.size := HB1.out.size
  have hnb := netBlk_new w1 0 (fun _ => 0)
  clear hb1 hk h
  go_wp2_with (refine wpList_store_net rfl 60 (.tmp 3) (.tmp 8) rfl w1.heap.size (netN L) (netM L) rfl rfl Try.sizeNet 0 (fun _ => 0) hnb ?_; intro w3 hp)
  go_ret
  exact ⟨rfl, (HB1.out.alloc hz _).trans (hp.below.mono hz)⟩

set_option maxHeartbeats 800000 in
theorem lawGraphOk (v : Value) (L : List (List Int)) (w : World) (h : GridAt w v L) :
    Calls Try.prog 4 #[.agg #[v]] w fun e w' => e = .returned (.bool true) ∧ Below w.heap.size w w' := by
  obtain ⟨a0, c0, rfl⟩ := h.slice
  have hbel : Below w.heap.size w (w.alloc (.cells #[.slice a0 L.length c0] 38)) := (Below.refl _ _).alloc (Nat.le_refl _) _
  have hk := h.keep hbel
  have HB := Lib.hid hbel
  clear hbel
  by_cases hs : szGrid L 1048576 < 0
  · have HS := Lib.hid (szGrid_neg hs)
    go_enter Try.func4, Try.ntmps4
    go_wp2_with fail
    refine (szGraph_any _ _ _ _ hk (by omega) (by omega)).mono ?_
    rintro e w1 ⟨rfl, hb1⟩
    have HB1 : Hid (Below w.heap.size w w1) := HB.out.trans (hb1.mono (by simp))
    clear hb1 hk h
    go_wp2
    go_ret
    exact ⟨rfl, HB1.out⟩
  · have hsm := (szGrid_small (L := L) (left := 1048576) (by omega) (by omega)).1
    go_enter Try.func4, Try.ntmps4
    go_wp2_with fail
    refine (szGraph_any _ _ _ _ hk (by omega) (by omega)).mono ?_
    rintro e w1 ⟨rfl, hb1⟩
    have kb1 : w1.cell? ⟨w.heap.size, 0, none⟩ = some (.slice a0 L.length c0) := by rw [hb1.cell (by simp)]; go_simp
    have HK1 := Lib.hid (hk.keep hb1)
    have HB1 : Hid (Below w.heap.size w w1) := HB.out.trans (hb1.mono (by simp))
    clear hb1 hk h HB
    go_wp2_with fail
    refine (toGraph_any _ _ _ HK1.out hsm).mono ?_
    rintro e w2 ⟨n2, a2, c2, rfl, ho2, hb2⟩
    have kb2 := cell_keep hb2 kb1
    have HK2 := Lib.hid (HK1.out.keep hb2)
    have HB2 : Hid (Below w.heap.size w w2) := HB1.out.trans (hb2.mono HB1.out.size)
    have HG2 := Lib.hid ho2.grid
    clear hb2 ho2 kb1 HB1 HK1
    go_wp2_with fail
    refine (specGraphOk_any _ _ _ HG2.out).mono ?_
    rintro e w3 ⟨rfl, hb3⟩
    have kb3 := cell_keep hb3 kb2
    have HK3 := Lib.hid (HK2.out.keep hb3)
    have HB3 : Hid (Below w.heap.size w w3) := HB2.out.trans (hb3.mono HB2.out.size)
    clear hb3 kb2 HB2 HK2 HG2
    go_wp2_with fail
    refine (toGraph_any _ _ _ HK3.out hsm).mono ?_
    rintro e w4 ⟨n4, a4, c4, rfl, ho4, hb4⟩
    have kb4 := cell_keep hb4 kb3
    have HK4 := Lib.hid (HK3.out.keep hb4)
    have HB4 : Hid (Below w.heap.size w w4) := HB3.out.trans (hb4.mono HB3.out.size)
    have HG4 := Lib.hid ho4.grid
    clear hb4 ho4 kb3 HB3 HK3
    go_wp2_with fail
    have ha4 : Below w4.heap.size w4 (w4.alloc (.cells #[.slice a4 n4 c4] 26)) := (Below.refl _ _).alloc (Nat.le_refl _) _
    refine (implGraphOk_any _ _ _ (HG4.out.keep ha4)).mono ?_
    rintro e w5 ⟨rfl, hb5⟩
    have kb5 := cell_keep hb5 (cell_keep ha4 kb4)
    have kx5 : w5.cell? ⟨w4.heap.size, 0, none⟩ = some (.slice a4 n4 c4) := by rw [hb5.cell (by simp)]; go_simp
    have HK5 := Lib.hid ((HK4.out.keep ha4).keep hb5)
    have HG5 := Lib.hid ((HG4.out.keep ha4).keep hb5)
    have HB5 : Hid (Below w.heap.size w w5) := (HB4.out.trans (ha4.mono HB4.out.size)).trans (hb5.mono (by have := HB4.out.size; simp; omega))
    clear hb5 kb4 HB4 HK4 HG4 ha4
    go_wp2
    go_region_with (first | (go_at_call 26; refine (toGraph_any _ _ _ (by exact HK5.out.keep (Below.refl _ _).drew) hsm).mono ?_; rintro e w6 ⟨n6, a6, c6, rfl, ho6, hb6⟩; have kx6 := cell_keep hb6 (cell_keep (Below.refl _ _).drew kx5); have HG6 := Lib.hid ho6.grid; have HH6 := Lib.hid ((HG5.out.keep (Below.refl _ _).drew).keep hb6); have HB6 : Hid (Below w.heap.size w w6) := HB5.out.drew.trans (hb6.mono HB5.out.size); clear hb6 ho6) | (go_at_call 27; refine (eqGraph_any _ _ _ _ _ HH6.out HG6.out).mono ?_; rintro e w7 ⟨rfl, hb7⟩; have HB7 : Hid (Below w.heap.size w w7) := HB6.out.trans (hb7.mono HB6.out.size); clear hb7; rw [decide_eq_true rfl]))
    all_goals go_wp2
    all_goals go_ret
    all_goals exact ⟨rfl, HB7.out⟩

end Go.Proofs.Ytehdpfbicifngaa
