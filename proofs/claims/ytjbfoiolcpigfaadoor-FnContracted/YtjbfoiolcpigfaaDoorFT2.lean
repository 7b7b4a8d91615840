/- The walk of FnTogether. -/
import Derived.Test.YtjbfoiolcpigfaaDoorFT1
import Derived.Test.YtjbfoiolcpigfaaDoorZ4
import Derived.Test.YtjbfoiolcpigfaaDoorQP2
import Derived.Test.YtjbfoiolcpigfaaDoorQS1
import Derived.Test.YtjbfoiolcpigfaaDoorQK2
import Derived.Test.YtjbfoiolcpigfaaDoorQLater
import Derived.Test.YtjbfoiolcpigfaaDoorQFP1
import Derived.Deep.RegionHeld3

namespace Go.Proofs.YtjbfoiolcpigfaaDoor
open Go.RowKit

/-- A box, and the graph that it holds. -/
structure Bx (w : World) (bo : Nat) (v : Value) (L : List (List Int)) : Prop where
  box : BoxAt w bo v
  grid : GridAt w v L
theorem Bx.keep {w w' : World} {bo : Nat} {v : Value} {L : List (List Int)} (h : Bx w bo v L) (hb : Below w.heap.size w w') : Bx w' bo v L := ⟨h.box.keep hb, h.grid.keep hb⟩
theorem Bx.new {w : World} {a : Option Addr} {n c : Nat} {L : List (List Int)} (h : GridAt w (.slice a n c) L) : Bx (w.alloc (.cells #[.slice a n c] 29)) w.heap.size (.slice a n c) L :=
  ⟨BoxAt.new _ _ _, h.keep ((Below.refl _ _).alloc (Nat.le_refl _) _)⟩
theorem many_bounds {L : List (List Int)} (hG : GraphP L) : 0 ≤ manyN L ∧ manyN L ≤ 120 := by
  unfold manyN edgesL
  rw [if_pos hG]
  have := edges_le hG
  omega

set_option maxHeartbeats 8000000 in
set_option maxRecDepth 100000 in
theorem lawTogether (a0 : Option Addr) (n0 c0 : Nat) (w : World) (hb : n0 ≤ 4096 → BytesAt w w.heap.size (.slice a0 n0 c0) n0) (hT : TabAt w) :
    Calls Tryd.prog 3 #[.slice a0 n0 c0] w fun e w' => e = .returned (.bool true) ∧ Below w.heap.size w w' := by
  obtain ⟨i0, hi, hz0, hz1, hz2⟩ := info_parts Tryd.infoI
  have HBY := Lib.hid hb
  clear hb
  go_enter Tryd.func3, Tryd.ntmps3
  go_wp2_with fail
  refine (big_any _ _ _ _).mono ?_
  rintro e w' ⟨rfl, rfl⟩
  by_cases hbig : (4096 : Int) < (n0 : Int)
  · rw [decide_eq_true hbig]
    go_wp2
    go_ret
    exact ⟨rfl, Below.refl _ _⟩
  rw [decide_eq_false hbig]
  have hby0 := HBY.out (by omega)
  have HB0 := Lib.hid hby0
  clear hby0 HBY hbig
  go_wp2_with fail
  refine (roll_any _ n0 803 w HB0.out).mono ?_
  rintro e w1 ⟨rfl, hd1, hb1⟩
  obtain ⟨d, hdd⟩ : ∃ d, d = w.heap.size := ⟨_, rfl⟩
  rw [← hdd] at hd1 HB0 ⊢
  have HDD := Lib.hid hdd
  have HD1 := Lib.hid hd1
  have hdl1 : d < w1.heap.size := hd1.lt
  have HY1 : Hid (BytesAt w1 d (.slice a0 n0 c0) n0) := by have := HB0.out.keepB hb1 (by omega); exact this
  have HW1 : Hid (Below d w w1) := by rw [hdd]; exact hb1
  clear hd1 hb1 hdd
  go_wp2_with fail
  refine (w5Graph_any d n0 5 _ w1 HD1.out HY1.out (by omega) (by omega)).mono ?_
  rintro e w2 ⟨L, m2, a2, c2, rfl, hGL, hL5, ho2, hd2, ht2⟩
  obtain rfl : m2 = L.length := by
    obtain ⟨a3, c3, e3⟩ := ho2.grid.slice
    simp only [Value.slice.injEq] at e3
    exact e3.2.1
  have hzL := hGL.1
  have HGL := Lib.hid hGL
  have hz2' : w1.heap.size ≤ w2.heap.size := ht2.size
  have hbx : Below w2.heap.size w2 (w2.alloc (.cells #[.slice a2 L.length c2] 29)) := (Below.refl _ _).alloc (Nat.le_refl _) _
  have HO2 := Lib.hid (ho2.keep hbx)
  have HD2 := Lib.hid (hd2.keep hbx)
  have HT2 := Lib.hid (ht2.under hbx hz2')
  have BX2 := Lib.hid (BoxAt.new w2 (.slice a2 L.length c2) 29)
  clear ho2 hd2 ht2 hbx hGL
  go_wp2_with fail
  refine (w5Graph_any d n0 5 _ _ HD2.out (HT2.out.bytes HY1.out (Nat.le_of_lt hdl1)) (by omega) (by omega)).mono ?_
  rintro e w3 ⟨M, m3, a3, c3, rfl, hGM, hM5, ho3, hd3, ht3⟩
  obtain rfl : m3 = M.length := by
    obtain ⟨a3, c3, e3⟩ := ho3.grid.slice
    simp only [Value.slice.injEq] at e3
    exact e3.2.1
  have hzM := hGM.1
  have HGM := Lib.hid hGM
  have hz3 := ht3.size
  rw [size_alloc1] at hz3
  have hbx : Below w3.heap.size w3 (w3.alloc (.cells #[.slice a3 M.length c3] 29)) := (Below.refl _ _).alloc (Nat.le_refl _) _
  have X4 : Hid (Bx (w3.alloc (.cells #[.slice a3 M.length c3] 29)) w2.heap.size (.slice a2 L.length c2) L) :=
    ⟨(BX2.out.touched ht3 (by omega) (by simp)).keep hbx, ((HO2.out.touched ht3 (by omega)).keep hbx).grid⟩
  have X5 : Hid (Bx (w3.alloc (.cells #[.slice a3 M.length c3] 29)) w3.heap.size (.slice a3 M.length c3) M) := Bx.new ho3.grid
  have HB : Hid (Below w.heap.size w (w3.alloc (.cells #[.slice a3 M.length c3] 29))) := by
    have h1 : Below d w1 (w2.alloc (.cells #[.slice a2 L.length c2] 29)) := HT2.out.below (Nat.le_of_lt hdl1)
    have h2 : Below d (w2.alloc (.cells #[.slice a2 L.length c2] 29)) w3 := ht3.below (by simp; omega)
    have h3 := ((HW1.out.trans h1).trans h2).trans (hbx.mono (by omega))
    rwa [HDD.out] at h3
  have hs16 : L.length + M.length ≤ 16 := by omega
  have kx4 := X4.out.box.1
  have kx5 := X5.out.box.1
  clear ho3 hd3 ht3 hbx hGM HO2 HD2 HT2 BX2 HD1 HY1 HW1 HB0
  obtain ⟨hbs, hbsL, hjoL⟩ := bs_yes HGL.out HGM.out hs16
  have HBS := Lib.hid hbs
  clear hbs hbsL hjoL
  go_wp2_with fail
  generalize (w3.alloc (.cells #[.slice a3 M.length c3] 29)) = W3 at X4 X5 HB kx4 kx5 ⊢

  clear kx4 kx5
  refine (implBeside_any _ _ L M _ X4.out.grid X5.out.grid).mono ?_
  rintro e w4 ⟨n4, a4, c4, rfl, ho4, hb4⟩
  have hst : Below w4.heap.size w4 (w4.alloc (.cells #[.slice a4 n4 c4] 29)) := (Below.refl _ _).alloc (Nat.le_refl _) _
  have hS : Below W3.heap.size W3 (w4.alloc (.cells #[.slice a4 n4 c4] 29)) := hb4.trans (hst.mono hb4.size)
  have X4' := Lib.hid (X4.out.keep hS)
  have X5' := Lib.hid (X5.out.keep hS)
  have X6 : Hid (Bx (w4.alloc (.cells #[.slice a4 n4 c4] 29)) w4.heap.size (.slice a4 n4 c4) (bsL L M)) := Bx.new ho4.grid
  have HB' : Hid (Below w.heap.size w (w4.alloc (.cells #[.slice a4 n4 c4] 29))) := HB.out.trans (hS.mono HB.out.size)
  clear ho4 hb4 hst hS HB X4 X5
  have X4 := X4'
  have X5 := X5'
  have HB := HB'
  clear HB' X4' X5'
  have kx4 := X4.out.box.1
  have kx5 := X5.out.box.1
  rw [HBS.out]
  go_wp2_with fail
  generalize (w4.alloc (.cells #[.slice a4 n4 c4] 29)) = W4 at HB X4 X5 X6 kx4 kx5 ⊢
  clear kx4 kx5
  refine (implJoinedGraph_any _ _ L M _ X4.out.grid X5.out.grid).mono ?_
  rintro e w5 ⟨n5, a5, c5, rfl, ho5, hb5⟩
  have hst : Below w5.heap.size w5 (w5.alloc (.cells #[.slice a5 n5 c5] 29)) := (Below.refl _ _).alloc (Nat.le_refl _) _
  have hS : Below W4.heap.size W4 (w5.alloc (.cells #[.slice a5 n5 c5] 29)) := hb5.trans (hst.mono hb5.size)
  have X4' := Lib.hid (X4.out.keep hS)
  have X5' := Lib.hid (X5.out.keep hS)
  have X6' := Lib.hid (X6.out.keep hS)
  have X8 : Hid (Bx (w5.alloc (.cells #[.slice a5 n5 c5] 29)) w5.heap.size (.slice a5 n5 c5) (joL L M)) := Bx.new ho5.grid
  have HB' : Hid (Below w.heap.size w (w5.alloc (.cells #[.slice a5 n5 c5] 29))) := HB.out.trans (hS.mono HB.out.size)
  clear ho5 hb5 hst hS HB X4 X5 X6
  have X4 := X4'
  have X5 := X5'
  have X6 := X6'
  have HB := HB'
  clear HB' X4' X5' X6'
  have kx4 := X4.out.box.1
  rw [HBS.out]
  go_wp2_with fail
  generalize (w5.alloc (.cells #[.slice a5 n5 c5] 29)) = W5 at HB X4 X5 X6 X8 kx4 ⊢
  clear kx4
  refine (specComplement_any _ L _ X4.out.grid).mono ?_
  rintro e w6 ⟨n6, a6, c6, rfl, ho6, hb6⟩
  have hst : Below w6.heap.size w6 (w6.alloc (.cells #[.slice a6 n6 c6] 29)) := (Below.refl _ _).alloc (Nat.le_refl _) _
  have hS : Below W5.heap.size W5 (w6.alloc (.cells #[.slice a6 n6 c6] 29)) := hb6.trans (hst.mono hb6.size)
  have X4' := Lib.hid (X4.out.keep hS)
  have X5' := Lib.hid (X5.out.keep hS)
  have X6' := Lib.hid (X6.out.keep hS)
  have X8' := Lib.hid (X8.out.keep hS)
  have X10 : Hid (Bx (w6.alloc (.cells #[.slice a6 n6 c6] 29)) w6.heap.size (.slice a6 n6 c6) (compL L)) := Bx.new ho6.grid
  have HB' : Hid (Below w.heap.size w (w6.alloc (.cells #[.slice a6 n6 c6] 29))) := HB.out.trans (hS.mono HB.out.size)
  clear ho6 hb6 hst hS HB X4 X5 X6 X8
  have X4 := X4'
  have X5 := X5'
  have X6 := X6'
  have X8 := X8'
  have HB := HB'
  clear HB' X4' X5' X6' X8'
  have kx5 := X5.out.box.1
  go_wp2_with fail
  generalize (w6.alloc (.cells #[.slice a6 n6 c6] 29)) = W6 at HB X4 X5 X6 X8 X10 kx5 ⊢
  clear kx5
  refine (specComplement_any _ M _ X5.out.grid).mono ?_
  rintro e w7 ⟨n7, a7, c7, rfl, ho7, hb7⟩
  have hst : Below w7.heap.size w7 (w7.alloc (.cells #[.slice a7 n7 c7] 29)) := (Below.refl _ _).alloc (Nat.le_refl _) _
  have hS : Below W6.heap.size W6 (w7.alloc (.cells #[.slice a7 n7 c7] 29)) := hb7.trans (hst.mono hb7.size)
  have X4' := Lib.hid (X4.out.keep hS)
  have X5' := Lib.hid (X5.out.keep hS)
  have X6' := Lib.hid (X6.out.keep hS)
  have X8' := Lib.hid (X8.out.keep hS)
  have X10' := Lib.hid (X10.out.keep hS)
  have X12 : Hid (Bx (w7.alloc (.cells #[.slice a7 n7 c7] 29)) w7.heap.size (.slice a7 n7 c7) (compL M)) := Bx.new ho7.grid
  have HB' : Hid (Below w.heap.size w (w7.alloc (.cells #[.slice a7 n7 c7] 29))) := HB.out.trans (hS.mono HB.out.size)
  clear ho7 hb7 hst hS HB X4 X5 X6 X8 X10
  have X4 := X4'
  have X5 := X5'
  have X6 := X6'
  have X8 := X8'
  have X10 := X10'
  have HB := HB'
  clear HB' X4' X5' X6' X8' X10'
  have kx10 := X10.out.box.1
  have kx12 := X12.out.box.1
  go_wp2_with fail
  generalize (w7.alloc (.cells #[.slice a7 n7 c7] 29)) = W7 at HB X4 X5 X6 X8 X10 X12 kx10 kx12 ⊢
  clear kx10 kx12
  refine (specBeside_any _ _ _ _ _ X10.out.grid X12.out.grid).mono ?_
  rintro e w8 ⟨n8, a8, c8, rfl, ho8, hb8⟩
  have hst : Below w8.heap.size w8 (w8.alloc (.cells #[.slice a8 n8 c8] 29)) := (Below.refl _ _).alloc (Nat.le_refl _) _
  have hS : Below W7.heap.size W7 (w8.alloc (.cells #[.slice a8 n8 c8] 29)) := hb8.trans (hst.mono hb8.size)
  have X4' := Lib.hid (X4.out.keep hS)
  have X5' := Lib.hid (X5.out.keep hS)
  have X6' := Lib.hid (X6.out.keep hS)
  have X8' := Lib.hid (X8.out.keep hS)
  have X10' := Lib.hid (X10.out.keep hS)
  have X12' := Lib.hid (X12.out.keep hS)
  have X14 : Hid (Bx (w8.alloc (.cells #[.slice a8 n8 c8] 29)) w8.heap.size (.slice a8 n8 c8) (bsL (compL L) (compL M))) := Bx.new ho8.grid
  have HB' : Hid (Below w.heap.size w (w8.alloc (.cells #[.slice a8 n8 c8] 29))) := HB.out.trans (hS.mono HB.out.size)
  clear ho8 hb8 hst hS HB X4 X5 X6 X8 X10 X12
  have X4 := X4'
  have X5 := X5'
  have X6 := X6'
  have X8 := X8'
  have X10 := X10'
  have X12 := X12'
  have HB := HB'
  clear HB' X4' X5' X6' X8' X10' X12'
  have kx14 := X14.out.box.1
  go_wp2_with fail
  generalize (w8.alloc (.cells #[.slice a8 n8 c8] 29)) = W8 at HB X4 X5 X6 X8 X10 X12 X14 kx14 ⊢
  clear kx14
  refine (specComplement_any _ _ _ X14.out.grid).mono ?_
  rintro e w9 ⟨n9, a9, c9, rfl, ho9, hb9⟩
  have hst : Below w9.heap.size w9 (w9.alloc (.cells #[.slice a9 n9 c9] 29)) := (Below.refl _ _).alloc (Nat.le_refl _) _
  have hS : Below W8.heap.size W8 (w9.alloc (.cells #[.slice a9 n9 c9] 29)) := hb9.trans (hst.mono hb9.size)
  have X4' := Lib.hid (X4.out.keep hS)
  have X5' := Lib.hid (X5.out.keep hS)
  have X6' := Lib.hid (X6.out.keep hS)
  have X8' := Lib.hid (X8.out.keep hS)
  have X10' := Lib.hid (X10.out.keep hS)
  have X12' := Lib.hid (X12.out.keep hS)
  have X14' := Lib.hid (X14.out.keep hS)
  have X16 : Hid (Bx (w9.alloc (.cells #[.slice a9 n9 c9] 29)) w9.heap.size (.slice a9 n9 c9) (compL (bsL (compL L) (compL M)))) := Bx.new ho9.grid
  have HB' : Hid (Below w.heap.size w (w9.alloc (.cells #[.slice a9 n9 c9] 29))) := HB.out.trans (hS.mono HB.out.size)
  clear ho9 hb9 hst hS HB X4 X5 X6 X8 X10 X12 X14
  have X4 := X4'
  have X5 := X5'
  have X6 := X6'
  have X8 := X8'
  have X10 := X10'
  have X12 := X12'
  have X14 := X14'
  have HB := HB'
  clear HB' X4' X5' X6' X8' X10' X12' X14'
  have kx4 := X4.out.box.1
  have kx5 := X5.out.box.1
  have kx6 := X6.out.box.1
  have kx8 := X8.out.box.1
  have kx16 := X16.out.box.1
  go_wp2_with fail
  generalize (w9.alloc (.cells #[.slice a9 n9 c9] 29)) = W9 at HB X4 X5 X6 X8 X10 X12 X14 X16 kx4 kx5 kx6 kx8 kx16 ⊢
  -- the first test
  have hb4 := many_bounds HGL.out
  have hb5 := many_bounds HGM.out
  have HMB := Lib.hid (bs_many HGL.out HGM.out hs16)
  obtain ⟨EA, hEA⟩ : ∃ EA, manyN L = EA := ⟨_, rfl⟩
  obtain ⟨EB, hEB⟩ : ∃ EB, manyN M = EB := ⟨_, rfl⟩
  rw [hEA] at hb4
  rw [hEB] at hb5
  have HEA := Lib.hid hEA
  have HEB := Lib.hid hEB
  have hwr : IntKind.i64.wrap (EA + EB) = EA + EB := IntWalk.i64_in _ (by omega)
  have qE : ((EA + EB) != (EA + EB)) = false := by simp
  have HGX : Hid (GraphP (bsL L M)) := by have := bs_graph HGL.out HGM.out hs16; rwa [← (bs_yes HGL.out HGM.out hs16).2.1] at this
  have HGJ : Hid (GraphP (joL L M)) := by have := jo_graph HGL.out HGM.out hs16; rwa [← (bs_yes HGL.out HGM.out hs16).2.2] at this
  have HSJ : Hid (sameB (joL L M) (compL (bsL (compL L) (compL M))) = true) := by
    show _ = _
    rw [jo_comp HGL.out HGM.out hs16]
    unfold sameB
    rw [decide_eq_true HGJ.out, decide_eq_true rfl]
    rfl

  have kl4 := fun x : Later W9 => x.cell kx4
  have kl5 := fun x : Later W9 => x.cell kx5
  have kl6 := fun x : Later W9 => x.cell kx6
  have kl8 := fun x : Later W9 => x.cell kx8
  have kl16 := fun x : Later W9 => x.cell kx16
  have hcA : Hid (∀ x : Later W9, Calls Tryd.prog 22 #[.agg #[.slice a5 n5 c5], .agg #[.slice a9 n9 c9]] x.at fun e w5 => e = .returned (.bool true) ∧ ∃ y : Later W9, w5 = y.at) :=
    fun x => Calls.later ((implSameGraph_any _ _ _ _ _ (X8.out.grid.keep x.bel) (X16.out.grid.keep x.bel)).mono fun _ _ ⟨h1, h2⟩ => ⟨by rw [h1, HSJ.out], h2⟩)
  have hcB : Hid (∀ x : Later W9, Calls Tryd.prog 23 #[.agg #[.slice a4 n4 c4]] x.at fun e w5 => e = .returned (.int .i64 (EA + EB)) ∧ ∃ y : Later W9, w5 = y.at) :=
    fun x => Calls.later ((implManyEdges_any _ _ _ (X6.out.grid.keep x.bel)).mono fun _ _ ⟨h1, h2⟩ => ⟨by rw [h1, HMB.out, HEA.out, HEB.out], h2⟩)
  have hcC : Hid (∀ x : Later W9, Calls Tryd.prog 24 #[.agg #[.slice a2 L.length c2]] x.at fun e w5 => e = .returned (.int .i64 EA) ∧ ∃ y : Later W9, w5 = y.at) :=
    fun x => Calls.later ((specManyEdges_any _ _ _ (X4.out.grid.keep x.bel)).mono fun _ _ ⟨h1, h2⟩ => ⟨by rw [h1, HEA.out], h2⟩)
  have hcD : Hid (∀ x : Later W9, Calls Tryd.prog 24 #[.agg #[.slice a3 M.length c3]] x.at fun e w5 => e = .returned (.int .i64 EB) ∧ ∃ y : Later W9, w5 = y.at) :=
    fun x => Calls.later ((specManyEdges_any _ _ _ (X5.out.grid.keep x.bel)).mono fun _ _ ⟨h1, h2⟩ => ⟨by rw [h1, HEB.out], h2⟩)
  clear kx4 kx5 kx6 kx8 kx16 hEA hEB
  refine wp_region_later (by kernel_rfl) (by kernel_rfl) ?_
  repeat (go_big_quiet_step ((first | (go_at_call 22; with_reducible exact hcA.out _) | (go_at_call 23; with_reducible exact hcB.out _) | (go_at_call 24; first | with_reducible exact hcC.out _ | with_reducible exact hcD.out _))))
  refine wpQuiet_nil ?_
  rintro _ ⟨x, rfl⟩
  have HXB : Hid (Below W9.heap.size W9 x.at) := x.bel
  generalize x.at = Wa at HXB ⊢
  clear kl4 kl5 kl6 kl8 kl16 hcA hcB hcC hcD
  have Y4 := Lib.hid (X4.out.keep HXB.out)
  have Y5 := Lib.hid (X5.out.keep HXB.out)
  have Y6 := Lib.hid (X6.out.keep HXB.out)
  have Y8 := Lib.hid (X8.out.keep HXB.out)
  have HBa : Hid (Below w.heap.size w Wa) := HB.out.trans (HXB.out.mono HB.out.size)
  clear X4 X5 X6 X8 X10 X12 X14 X16 HB HXB
  have hown0 : (Wa.alloc (.cells #[] 2)).ownsRow Wa.heap.size 2 1 (.slice (some ⟨Wa.heap.size, 0, none⟩) 0 0) 0 [] := World.ownsRow_lit Wa #[] 0 (Nat.le_refl _) (Nat.zero_le _) rfl
  have HO0 := Lib.hid hown0
  have K4 : Hid (∀ w', Below Wa.heap.size Wa w' → w'.cell? ⟨w2.heap.size, 0, none⟩ = some (.slice a2 L.length c2)) := fun w' h => (Y4.out.keep h).box.1
  clear hown0
  go_wp2_with fail
  go_loopw [18, 19] (fun s i wr => ∃ k : Nat, k ≤ L.length ∧ i = .int .i64 k ∧ OwnRow 2 wr Wa.heap.size s (allL k) ∧ Below Wa.heap.size Wa wr) (fun _ i _ => L.length - (intOf i).toNat)
  case atStart => exact ⟨0, Nat.zero_le _, rfl, OwnRow.of_ownsRow (n := 0) (xs := []) HO0.out (Nat.zero_le _) (fun x hx => absurd hx (by simp)), (Below.refl _ _).alloc (Nat.le_refl _) _⟩
  case round =>
    obtain ⟨k, hk, rfl, ho, hb⟩ := hrel
    have k4 := K4.out _ hb
    have hz3 : Wa.heap.size ≤ wr.heap.size := hb.size
    have HAS := Lib.hid (allL_succ k)
    have HAL := Lib.hid (allL_len k)
    obtain ⟨a9, c9, e9⟩ := ho.row.slice
    rw [allL_len] at e9
    subst e9
    have HO := Lib.hid ho
    have HB := Lib.hid hb
    clear ho hb
    by_cases hlt : k < L.length
    · go_wp2_with (at_builtin; refine wpList_append_own _ rfl (.tmp 93) (.tmp 95) 36 rfl Wa.heap.size 2 i0 (.int .i64 0) 1 8 Tryd.underlying36 hi hz0 hz1 hz2 rfl (by decide) _ _ _ rfl (HO.out.owns.alloc _) ⟨wr.heap.size, 0, none⟩ 1 1 [.int .i64 (k : Int)] rfl rfl (lit_one _ _ _) (one_one _) (by rw [HAL.out]; unfold maxLen; omega) (by rw [HAL.out]; omega) (by simp; omega) ?_)
      intro v4 w4 hown4 hgrow4 _
      have hb4 : Below Wa.heap.size Wa w4 := (HB.out.alloc hz3 _).grown hgrow4 (by simp; omega) (fun j hj => (HO.out.lt j hj).1)
      have HO4 : Hid (OwnRow 2 w4 Wa.heap.size v4 (allL (k + 1))) := OwnRow.of_ownsRow (n := (allL k).length + 1) (by rw [HAS.out]; simpa using hown4) (by rw [allL_len]; unfold maxLen; omega) (fun x hx => by
        obtain ⟨i, hi, rfl⟩ := (allL_mem _ _).1 hx
        unfold I64; omega)
      have HB4 := Lib.hid hb4
      clear hown4 hgrow4 hb4
      go_wp2
      go_roundw
      case rel => exact ⟨k + 1, by omega, by go_num, HO4.out, HB4.out⟩
      case measure => simp [intOf]; omega
    · obtain rfl : k = L.length := by omega
      obtain ⟨hi1, hi2⟩ := bs_induced HGL.out HGM.out hs16
      have HI1 := Lib.hid hi1
      have HI2 := Lib.hid hi2
      have Z6 := Lib.hid (Y6.out.keep HB.out)
      have k6 := Z6.out.box.1
      clear hi1 hi2
      go_wp2_with fail
      refine (implInduced_any _ _ _ _ _ Z6.out.grid HO.out.row).mono ?_
      rintro e wp ⟨np, ap, cp, rfl, hop, hbp⟩
      rw [HI1.out, HI2.out] at hop
      rw [HI1.out]
      have hst : Below wp.heap.size wp (wp.alloc (.cells #[.slice ap np cp] 29)) := (Below.refl _ _).alloc (Nat.le_refl _) _
      have hS : Below Wa.heap.size Wa (wp.alloc (.cells #[.slice ap np cp] 29)) := HB.out.trans ((hbp.trans (hst.mono hbp.size)).mono HB.out.size)
      have HS := Lib.hid hS
      have V20 : Hid (Bx (wp.alloc (.cells #[.slice ap np cp] 29)) wp.heap.size (.slice ap np cp) L) := Bx.new hop.grid
      have V4 := Lib.hid (Y4.out.keep hS)
      have V5 := Lib.hid (Y5.out.keep hS)
      have V6 := Lib.hid (Y6.out.keep hS)
      have V8 := Lib.hid (Y8.out.keep hS)
      clear hop hbp hst hS k6 Z6 k4 HO HB
      go_wp2_with fail
      generalize (wp.alloc (.cells #[.slice ap np cp] 29)) = Wb at HS V20 V4 V5 V6 V8 ⊢
      have kv20 := V20.out.box.1
      have kv4 := V4.out.box.1
      have kv5 := V5.out.box.1
      have kv6 := V6.out.box.1
      have kv8 := V8.out.box.1
      have HTb : Hid (∀ w', Below Wb.heap.size Wb w' → TabAt w') := fun w' h => (hT.keep (HBa.out.trans (HS.out.mono HBa.out.size))).keep h
      have HSB : Hid (sameB L L = true) := by show sameB L L = true; unfold sameB; rw [decide_eq_true HGL.out, decide_eq_true rfl]; rfl
      have HPX := Lib.hid (bs_parts HGL.out HGM.out hs16)
      have HPJ := Lib.hid (jo_parts HGL.out HGM.out hs16)
      have hpL : (partsL L).length ≤ 1048576 := (partsL_small L).1
      have hpM : (partsL M).length ≤ 1048576 := (partsL_small M).1
      obtain ⟨PA, hPA⟩ : ∃ PA, (partsL L).length = PA := ⟨_, rfl⟩
      obtain ⟨PB, hPB⟩ : ∃ PB, (partsL M).length = PB := ⟨_, rfl⟩
      rw [hPA] at hpL
      rw [hPB] at hpM
      have HPA := Lib.hid hPA
      have HPB := Lib.hid hPB
      clear hPA hPB
      have hwP : IntKind.i64.wrap ((PA : Int) + (PB : Int)) = (PA : Int) + (PB : Int) := IntWalk.i64_in _ (by omega)
      have hcP : ((PA + PB : Nat) : Int) = (PA : Int) + (PB : Int) := by omega
      have qP : (((PA : Int) + (PB : Int)) == ((PA : Int) + (PB : Int))) = true := by simp
      have qP2 : (((PA + PB : Nat) : Int) == ((PA : Int) + (PB : Int))) = true := by rw [hcP]; exact qP
      clear hcP
      go_region_held3 (fun wx => wx.cell? ⟨wp.heap.size, 0, none⟩ = some (.slice ap np cp) ∧ wx.cell? ⟨w2.heap.size, 0, none⟩ = some (.slice a2 L.length c2) ∧ wx.cell? ⟨w3.heap.size, 0, none⟩ = some (.slice a3 M.length c3) ∧ wx.cell? ⟨w4.heap.size, 0, none⟩ = some (.slice a4 n4 c4) ∧ wx.cell? ⟨w5.heap.size, 0, none⟩ = some (.slice a5 n5 c5)) (first | exact ⟨kv20, kv4, kv5, kv6, kv8⟩ | exact ⟨ka20, ka4, ka5, ka6, ka8⟩ | exact ⟨kb20, kb4, kb5, kb6, kb8⟩ | exact ⟨kc20, kc4, kc5, kc6, kc8⟩ | exact ⟨kd20, kd4, kd5, kd6, kd8⟩ | exact ⟨ke20, ke4, ke5, ke6, ke8⟩)
        (first
          | (go_at_call 22; refine (implSameGraph_any _ _ L L _ (V20.out.grid.keep (Below.refl _ _).drew) (V4.out.grid.keep (Below.refl _ _).drew)).mono ?_; rintro e wa ⟨rfl, hba⟩; have HBa' : Hid (Below Wb.heap.size Wb wa) := (Below.refl _ _).drew.trans hba; have ka20 := (V20.out.keep HBa'.out).box.1; have ka4 := (V4.out.keep HBa'.out).box.1; have ka5 := (V5.out.keep HBa'.out).box.1; have ka6 := (V6.out.keep HBa'.out).box.1; have ka8 := (V8.out.keep HBa'.out).box.1; rw [HSB.out]; clear hba)
          | (go_at_call 26; refine (implPartsOf_any _ _ _ (V8.out.grid.keep HBd.out) (HTb.out _ HBd.out)).mono ?_; rintro e we ⟨ne, ae, ce, rfl, hoe, hbe⟩; have HBe : Hid (Below Wb.heap.size Wb we) := HBd.out.trans (hbe.mono HBd.out.size); have ke20 := (V20.out.keep HBe.out).box.1; have ke4 := (V4.out.keep HBe.out).box.1; have ke5 := (V5.out.keep HBe.out).box.1; have ke6 := (V6.out.keep HBe.out).box.1; have ke8 := (V8.out.keep HBe.out).box.1; obtain ⟨a', c', ea⟩ := hoe.grid.slice; simp only [Value.slice.injEq] at ea; obtain ⟨rfl, rfl, rfl⟩ := ea; rw [HPJ.out]; clear hoe; clear hbe)
          | (go_at_call 26; refine (implPartsOf_any _ _ _ (V6.out.grid.keep HBa'.out) (HTb.out _ HBa'.out)).mono ?_; rintro e wb ⟨nb, ab, cb, rfl, hob, hbb⟩; have HBb : Hid (Below Wb.heap.size Wb wb) := HBa'.out.trans (hbb.mono HBa'.out.size); have kb20 := (V20.out.keep HBb.out).box.1; have kb4 := (V4.out.keep HBb.out).box.1; have kb5 := (V5.out.keep HBb.out).box.1; have kb6 := (V6.out.keep HBb.out).box.1; have kb8 := (V8.out.keep HBb.out).box.1; obtain ⟨a', c', ea⟩ := hob.grid.slice; simp only [Value.slice.injEq] at ea; obtain ⟨rfl, rfl, rfl⟩ := ea; rw [HPX.out, HPA.out, HPB.out]; clear hob; clear hbb)
          | (go_at_call 27; refine (specPartsOf_any _ M _ (V5.out.grid.keep HBc.out)).mono ?_; rintro e wd ⟨nd, ad, cd, rfl, hod, hbd⟩; have HBd : Hid (Below Wb.heap.size Wb wd) := HBc.out.trans (hbd.mono HBc.out.size); have kd20 := (V20.out.keep HBd.out).box.1; have kd4 := (V4.out.keep HBd.out).box.1; have kd5 := (V5.out.keep HBd.out).box.1; have kd6 := (V6.out.keep HBd.out).box.1; have kd8 := (V8.out.keep HBd.out).box.1; obtain ⟨a', c', ea⟩ := hod.grid.slice; simp only [Value.slice.injEq] at ea; obtain ⟨rfl, rfl, rfl⟩ := ea; rw [HPB.out]; clear hod; clear hbd)
          | (go_at_call 27; refine (specPartsOf_any _ L _ (V4.out.grid.keep HBb.out)).mono ?_; rintro e wc ⟨nc, ac, cc, rfl, hoc, hbc⟩; have HBc : Hid (Below Wb.heap.size Wb wc) := HBb.out.trans (hbc.mono HBb.out.size); have kc20 := (V20.out.keep HBc.out).box.1; have kc4 := (V4.out.keep HBc.out).box.1; have kc5 := (V5.out.keep HBc.out).box.1; have kc6 := (V6.out.keep HBc.out).box.1; have kc8 := (V8.out.keep HBc.out).box.1; obtain ⟨a', c', ea⟩ := hoc.grid.slice; simp only [Value.slice.injEq] at ea; obtain ⟨rfl, rfl, rfl⟩ := ea; rw [HPA.out]; clear hoc; clear hbc)
        )
      have HFIN : Hid (Below w.heap.size w we) := HBa.out.trans ((HS.out.trans (HBe.out.mono HS.out.size)).mono HBa.out.size)
      go_wp2
      go_ret
      exact ⟨rfl, HFIN.out⟩

end Go.Proofs.YtjbfoiolcpigfaaDoor
