/- The texts S5, joined. -/
import Derived.Test.YtikfbfclbmlopaaQ6
import Derived.Test.YtikfbfclbmlopaaQ7
import Derived.Test.YtikfbfclbmlopaaC7
import Derived.Test.YtikfbfclbmlopaaQ2
import Derived.Test.YtikfbfclbmlopaaLater
import Derived.IntWalk
import Derived.Deep.DeepCutAuto

/- The walk of the law FnUndone. -/
namespace Go.Proofs.Ytikfbfclbmlopaa
open Go.RowKit

/-- A vertex with rolled neighbours has been added, the answer boxed; beside new memory only the dice have turned. -/
def CutSet (W : World) (d : Nat) (L : List (List Int)) (p b : Value) (wx : World) : Prop :=
  ∃ xs bo a n c, p = .pointer (some ⟨bo, 0, none⟩) ∧ b = .bool true ∧ SetP xs L.length ∧ BoxAt wx bo (.slice a n c) ∧ GridAt wx (.slice a n c) (avL L xs) ∧ Touched d (d + 1) W wx
theorem CutSet.last {W wA w3 : World} {d : Nat} {L : List (List Int)} {xs : List Int} {a : Option Addr} {n c B : Nat} (hx : SetP xs L.length) (ht : Touched d (d + 1) W wA) (hb : Below wA.heap.size wA w3) (ho : OwnGrid 2 34 w3 B (.slice a n c) (avL L xs)) :
    CutSet W d L (.pointer (some ⟨w3.heap.size, 0, none⟩)) (.bool true) (w3.alloc (.cells #[.slice a n c] 26)) :=
  ⟨xs, w3.heap.size, a, n, c, rfl, rfl, hx, BoxAt.new w3 _ _, (ho.keep ((Below.refl _ _).alloc (Nat.le_refl _) _)).grid, ht.under (hb.alloc hb.size _) ht.size⟩
theorem CutSet.first {W wA w3 : World} {d : Nat} {L : List (List Int)} {xs : List Int} {a : Option Addr} {n c B bo : Nat} (hx : SetP xs L.length) (ht : Touched d (d + 1) W wA) (hb : Below wA.heap.size wA w3) (ho : OwnGrid 2 34 w3 B (.slice a n c) (avL L xs)) (hbx : BoxAt w3 bo (.slice none 0 0)) (hlt : bo < B) (hbo : W.heap.size ≤ bo) :
    CutSet W d L (.pointer (some ⟨bo, 0, none⟩)) (.bool true) (w3.setCell ⟨bo, 0, none⟩ (.slice a n c)) :=
  ⟨xs, bo, a, n, c, rfl, rfl, hx, hbx.set _, (ho.setBelow hlt _).grid, (ht.under hb ht.size).under ((Below.refl W.heap.size _).setCell hbo _) (Nat.le_refl _)⟩

theorem cut_same (L : List (List Int)) (p : Int) : addB L p p = false := by unfold addB pairB; simp

set_option maxHeartbeats 8000000 in
set_option maxRecDepth 100000 in
theorem lawUndone (a0 : Option Addr) (n0 c0 : Nat) (w : World) (hb : n0 ≤ 4096 → BytesAt w w.heap.size (.slice a0 n0 c0) n0) :
    Calls Try.prog 5 #[.slice a0 n0 c0] w fun e w' => e = .returned (.bool true) ∧ Below w.heap.size w w' := by
  have HBY := Lib.hid hb
  clear hb
  go_enter Try.func5, Try.ntmps5
  go_wp2_with fail
  refine (big_any _ _ _ _).mono ?_
  rintro e w' ⟨rfl, rfl⟩
  by_cases hbig : (4096 : Int) < (n0 : Int)
  · rw [decide_eq_true hbig]
    go_wp2
    go_ret
    exact ⟨rfl, Below.refl _ _⟩
  rw [decide_eq_false hbig]
  have hby0 := HBY.out (by omega)
  have HB0 := Lib.hid hby0
  clear hby0 HBY hbig
  go_wp2_with fail
  refine (roll_any _ n0 801 w HB0.out).mono ?_
  rintro e w1 ⟨rfl, hd1, hb1⟩
  obtain ⟨d, hdd⟩ : ∃ d, d = w.heap.size := ⟨_, rfl⟩
  rw [← hdd] at hd1 HB0 ⊢
  have HDD := Lib.hid hdd
  have HD1 := Lib.hid hd1
  have hdl1 : d < w1.heap.size := hd1.lt
  have HY1 : Hid (BytesAt w1 d (.slice a0 n0 c0) n0) := by have := HB0.out.keepB hb1 (by omega); exact this
  have HW1 : Hid (Below d w w1) := by rw [hdd]; exact hb1
  clear hd1 hb1 hdd
  go_wp2_with fail
  refine (w5Graph_any d n0 8 _ w1 HD1.out HY1.out (by omega) (by omega)).mono ?_
  rintro e w2 ⟨L, m2, a2, c2, rfl, hG, hL8, ho2, hd2, ht2⟩
  obtain rfl : m2 = L.length := by
    obtain ⟨a3, c3, e3⟩ := ho2.grid.slice
    simp only [Value.slice.injEq] at e3
    exact e3.2.1
  have hz := hG.1
  have HG := Lib.hid hG
  have hz2 : w1.heap.size ≤ w2.heap.size := ht2.size
  have hbx : Below w2.heap.size w2 (w2.alloc (.cells #[.slice a2 L.length c2] 26)) := (Below.refl _ _).alloc (Nat.le_refl _) _
  have HO2 := Lib.hid (ho2.keep hbx)
  have HD2 := Lib.hid (hd2.keep hbx)
  have HT2 := Lib.hid (ht2.under hbx hz2)
  have BX2 := Lib.hid (BoxAt.new w2 (.slice a2 L.length c2) 26)
  have kb2 := BX2.out.1
  have hlI : (1 : Int) ≤ (L.length : Int) := by omega
  clear ho2 hd2 ht2 hbx hG
  go_wp2_with fail
  refine (below_any d n0 _ (L.length : Int) _ HD2.out (HT2.out.bytes HY1.out (Nat.le_of_lt hdl1)) hlI (by unfold I64; omega)).mono ?_
  rintro e w3 ⟨u, rfl, hu, hd3, ho3⟩
  obtain ⟨p, rfl⟩ : ∃ p : Nat, u = (p : Int) := ⟨u.toNat, by have := (hu.2 (by omega)).1; omega⟩
  have hp : p < L.length := by have := (hu.2 (by omega)).2; omega
  have HD3 := Lib.hid hd3
  have HT3 := Lib.hid (HT2.out.only ho3)
  have BX3 := Lib.hid (BX2.out.only ho3 (by omega))
  have HO3 := Lib.hid (HO2.out.touched (ho3.touched (Nat.le_refl _) (Nat.lt_succ_self _)) (by omega))
  clear hu hd3 ho3 HD2 HT2 BX2 HO2 kb2
  go_wp2_with fail
  refine (below_any d n0 _ (L.length : Int) _ HD3.out (HT3.out.bytes HY1.out (Nat.le_of_lt hdl1)) hlI (by unfold I64; omega)).mono ?_
  rintro e w4 ⟨u2, rfl, hu2, hd4, ho4⟩
  obtain ⟨q, rfl⟩ : ∃ q : Nat, u2 = (q : Int) := ⟨u2.toNat, by have := (hu2.2 (by omega)).1; omega⟩
  have hq : q < L.length := by have := (hu2.2 (by omega)).2; omega
  have HD4 := Lib.hid hd4
  have HT4 := Lib.hid (HT3.out.only ho4)
  have BX4 := Lib.hid (BX3.out.only ho4 (by omega))
  have HO4 := Lib.hid (HO3.out.touched (ho4.touched (Nat.le_refl _) (Nat.lt_succ_self _)) (by omega))
  have KB : Hid (∀ w', Below w4.heap.size w4 w' → w'.cell? ⟨w2.heap.size, 0, none⟩ = some (.slice a2 L.length c2)) := fun w' h => (BX4.out.keep h).1
  have GK : Hid (∀ w', Below w4.heap.size w4 w' → GridAt w' (.slice a2 L.length c2) L) := fun w' h => (HO4.out.keep h).grid
  have hb42 : w2.heap.size < w4.heap.size := BX4.out.lt
  clear hu2 hd4 ho4 HD3 HT3 BX3 HO3
  have kb4 := KB.out _ (Below.refl _ _)
  have hI : ∀ x : Nat, x < L.length → I64 (x : Int) := fun x hx => by unfold I64; omega
  have HI6 := Lib.hid hI
  clear hI
  -- an edge added, an edge cut
  go_wp2_with fail
  refine (implAddedEdge_any _ L (p : Int) (q : Int) _ (GK.out _ (Below.refl _ _)) (HI6.out p hp) (HI6.out q hq)).mono ?_
  rintro e w5 ⟨n5, a5, c5, rfl, ho5, hb5⟩
  have hst5 : Below w5.heap.size w5 (w5.alloc (.cells #[.slice a5 n5 c5] 26)) := (Below.refl _ _).alloc (Nat.le_refl _) _
  have HW5 : Hid (Below w4.heap.size w4 (w5.alloc (.cells #[.slice a5 n5 c5] 26))) := hb5.alloc hb5.size _
  have HO5 := Lib.hid (ho5.grid.keep hst5)
  have B5 := Lib.hid (BoxAt.new w5 (.slice a5 n5 c5) 26)
  have hz5 : w4.heap.size ≤ w5.heap.size := hb5.size
  have kb5 := KB.out _ HW5.out
  clear ho5 hb5 hst5 kb4
  go_wp2_with fail
  refine (implCutEdge_any _ L (p : Int) (q : Int) _ (GK.out _ HW5.out) (HI6.out p hp) (HI6.out q hq)).mono ?_
  rintro e w6 ⟨n6, a6, c6, rfl, ho6, hb6⟩
  have hst6 : Below w6.heap.size w6 (w6.alloc (.cells #[.slice a6 n6 c6] 26)) := (Below.refl _ _).alloc (Nat.le_refl _) _
  have HW6 : Hid (Below w4.heap.size w4 (w6.alloc (.cells #[.slice a6 n6 c6] 26))) := (HW5.out.trans (hb6.mono HW5.out.size)).trans (hst6.mono (Nat.le_trans HW5.out.size hb6.size))
  have HO6 := Lib.hid (ho6.grid.keep hst6)
  have B6 := Lib.hid (BoxAt.new w6 (.slice a6 n6 c6) 26)
  have B56 := Lib.hid ((B5.out.keep hb6).keep hst6)
  have HO56 := Lib.hid ((HO5.out.keep hb6).keep hst6)
  have kb6 := KB.out _ HW6.out
  clear ho6 hb6 hst6 kb5 HW5 HO5 B5
  have hcase : (p = q ∧ addB L (p : Int) (q : Int) = false ∧ edgeB L (p : Int) (q : Int) = false) ∨ (p ≠ q ∧ addB L (p : Int) (q : Int) = false ∧ edgeB L (p : Int) (q : Int) = true) ∨ (p ≠ q ∧ addB L (p : Int) (q : Int) = true ∧ edgeB L (p : Int) (q : Int) = false) := by
    have h1 := addB_adj HG.out hp hq
    by_cases hpq : p = q
    · left
      subst hpq
      exact ⟨rfl, cut_same L _, by rw [edgeB_adj HG.out hp hp, adjB_self HG.out]⟩
    · right
      have hne : ((p : Int) != (q : Int)) = true := by rw [bne_iff_ne]; omega
      rw [hne, Bool.true_and] at h1
      cases hE : edgeB L (p : Int) (q : Int) with
      | true => left; rw [hE] at h1; exact ⟨hpq, h1, rfl⟩
      | false => right; rw [hE] at h1; exact ⟨hpq, h1, rfl⟩
  rcases hcase with hA | hB | hC
  case' inl =>
    obtain ⟨hpq, eP, eC⟩ := hA
    subst hpq
    have EC := Lib.hid eC
    have hne : ((p : Int) != (p : Int)) = false := by simp
    rw [eP, eC]
    clear eP eC
    go_wp2_with fail
    refine (specEdgeIn_any _ L (p : Int) (p : Int) _ (GK.out _ HW6.out) (HI6.out p hp) (HI6.out p hp)).mono ?_
    rintro e wt ⟨rfl, hbt⟩
    rw [EC.out]
    have HBT : Hid (Below w4.heap.size w4 wt) := HW6.out.trans (hbt.mono HW6.out.size)
    clear hbt kb6 hne
  case' inr.inl =>
    obtain ⟨hpq, eP, eC⟩ := hB
    have EC := Lib.hid eC
    have hne : ((p : Int) != (q : Int)) = true := by rw [bne_iff_ne]; omega
    rw [eP, eC]
    clear eP eC
    go_wp2_with fail
    refine (specEdgeIn_any _ L (p : Int) (q : Int) _ (GK.out _ HW6.out) (HI6.out p hp) (HI6.out q hq)).mono ?_
    rintro e w7 ⟨rfl, hb7⟩
    rw [EC.out]
    have HW7 : Hid (Below w4.heap.size w4 w7) := HW6.out.trans (hb7.mono HW6.out.size)
    have kb7 := KB.out _ HW7.out
    have B67 := Lib.hid (B6.out.keep hb7)
    have HO67 := Lib.hid (HO6.out.keep hb7)
    clear hb7 kb6
    go_wp2_with fail
    refine (specEdgeIn_any _ L (p : Int) (q : Int) _ (GK.out _ HW7.out) (HI6.out p hp) (HI6.out q hq)).mono ?_
    rintro e w8 ⟨rfl, hb8⟩
    rw [EC.out]
    have HW8 : Hid (Below w4.heap.size w4 w8) := HW7.out.trans (hb8.mono HW7.out.size)
    have k10 := (B67.out.keep hb8).1
    have HO68 := Lib.hid (HO67.out.keep hb8)
    obtain ⟨hGY, hAY, hEY⟩ := undone_cut EC.out
    have HAY := Lib.hid hAY
    have HEY := Lib.hid hEY
    clear hb8 kb7 hGY hAY hEY hne hpq
    go_wp2_with fail
    refine (implAddedEdge_any _ (cutEL L (p : Int) (q : Int)) (q : Int) (p : Int) _ HO68.out (HI6.out q hq) (HI6.out p hp)).mono ?_
    rintro e w9 ⟨n9, a9, c9, rfl, ho9, hb9⟩
    rw [HAY.out]
    rw [HEY.out] at ho9
    have hst9 : Below w9.heap.size w9 (w9.alloc (.cells #[.slice a9 n9 c9] 26)) := (Below.refl _ _).alloc (Nat.le_refl _) _
    have HW9 : Hid (Below w4.heap.size w4 (w9.alloc (.cells #[.slice a9 n9 c9] 26))) := (HW8.out.trans (hb9.mono HW8.out.size)).trans (hst9.mono (Nat.le_trans HW8.out.size hb9.size))
    have HO9 := Lib.hid (ho9.grid.keep hst9)
    have kb9 := KB.out _ HW9.out
    have HSB : Hid (sameB L L = true) := by show sameB L L = true; unfold sameB; rw [decide_eq_true HG.out, decide_eq_true rfl]; rfl
    clear ho9 hb9 hst9 k10
    go_wp2_with fail
    refine (implSameGraph_any _ _ L L _ HO9.out (GK.out _ HW9.out)).mono ?_
    rintro e wt ⟨rfl, hbt⟩
    rw [HSB.out]
    have HBT : Hid (Below w4.heap.size w4 wt) := HW9.out.trans (hbt.mono HW9.out.size)
    clear hbt kb9
  case' inr.inr =>
    obtain ⟨hpq, eP, eC⟩ := hC
    have EC := Lib.hid eC
    have hne : ((p : Int) != (q : Int)) = true := by rw [bne_iff_ne]; omega
    obtain ⟨hGX, hEX, hCX⟩ := undone_add eP
    have HEX := Lib.hid hEX
    have HCX := Lib.hid hCX
    rw [eP, eC]
    clear eP eC hGX hEX hCX
    go_wp2_with fail
    refine (specEdgeIn_any _ L (p : Int) (q : Int) _ (GK.out _ HW6.out) (HI6.out p hp) (HI6.out q hq)).mono ?_
    rintro e w7 ⟨rfl, hb7⟩
    rw [EC.out]
    have HW7 : Hid (Below w4.heap.size w4 w7) := HW6.out.trans (hb7.mono HW6.out.size)
    have kb7 := KB.out _ HW7.out
    have B57 := Lib.hid (B56.out.keep hb7)
    have HO57 := Lib.hid (HO56.out.keep hb7)
    clear hb7 kb6
    go_wp2_with fail
    refine (specEdgeIn_any _ L (p : Int) (q : Int) _ (GK.out _ HW7.out) (HI6.out p hp) (HI6.out q hq)).mono ?_
    rintro e w8 ⟨rfl, hb8⟩
    rw [EC.out]
    have HW8 : Hid (Below w4.heap.size w4 w8) := HW7.out.trans (hb8.mono HW7.out.size)
    have k8 := (B57.out.keep hb8).1
    have HO58 := Lib.hid (HO57.out.keep hb8)
    clear hb8 kb7 hne hpq
    go_wp2_with fail
    refine (implCutEdge_any _ (addEL L (p : Int) (q : Int)) (q : Int) (p : Int) _ HO58.out (HI6.out q hq) (HI6.out p hp)).mono ?_
    rintro e w9 ⟨n9, a9, c9, rfl, ho9, hb9⟩
    rw [HEX.out]
    rw [HCX.out] at ho9
    have hst9 : Below w9.heap.size w9 (w9.alloc (.cells #[.slice a9 n9 c9] 26)) := (Below.refl _ _).alloc (Nat.le_refl _) _
    have HW9 : Hid (Below w4.heap.size w4 (w9.alloc (.cells #[.slice a9 n9 c9] 26))) := (HW8.out.trans (hb9.mono HW8.out.size)).trans (hst9.mono (Nat.le_trans HW8.out.size hb9.size))
    have HO9 := Lib.hid (ho9.grid.keep hst9)
    have kb9 := KB.out _ HW9.out
    have HSB : Hid (sameB L L = true) := by show sameB L L = true; unfold sameB; rw [decide_eq_true HG.out, decide_eq_true rfl]; rfl
    clear ho9 hb9 hst9 k8
    go_wp2_with fail
    refine (implSameGraph_any _ _ L L _ HO9.out (GK.out _ HW9.out)).mono ?_
    rintro e wt ⟨rfl, hbt⟩
    rw [HSB.out]
    have HBT : Hid (Below w4.heap.size w4 wt) := HW9.out.trans (hbt.mono HW9.out.size)
    clear hbt kb9
  all_goals (
    have kbt := KB.out _ HBT.out
    go_wp2_with fail
    refine (implComplement_any _ L _ (GK.out _ HBT.out)).mono ?_
    rintro e w11 ⟨n11, a11, c11, rfl, ho11, hb11⟩
    rw [decide_eq_true HG.out]
    have hst11 : Below w11.heap.size w11 (w11.alloc (.cells #[.slice a11 n11 c11] 26)) := (Below.refl _ _).alloc (Nat.le_refl _) _
    have HW11 : Hid (Below w4.heap.size w4 (w11.alloc (.cells #[.slice a11 n11 c11] 26))) := (HBT.out.trans (hb11.mono HBT.out.size)).trans (hst11.mono (Nat.le_trans HBT.out.size hb11.size))
    have hbtt : w4.heap.size ≤ wt.heap.size := HBT.out.size
    have hz11 : wt.heap.size ≤ w11.heap.size := hb11.size
    have O11 := Lib.hid ((ho11.mono hbtt).keep hst11)
    have B11 := Lib.hid (BoxAt.new w11 (.slice a11 n11 c11) 26)
    have k16 := B11.out.1
    have HGC := Lib.hid (comp_graph HG.out).1
    clear ho11 hb11 hst11 kbt
    go_wp2_with fail
    refine (implComplement_any _ (compL L) _ O11.out.grid).mono ?_
    rintro e w12 ⟨n12, a12, c12, rfl, ho12, hb12⟩
    rw [decide_eq_true HGC.out]
    rw [comp_comp HG.out] at ho12
    have hst12 : Below w12.heap.size w12 (w12.alloc (.cells #[.slice a12 n12 c12] 26)) := (Below.refl _ _).alloc (Nat.le_refl _) _
    have HW12 : Hid (Below w4.heap.size w4 (w12.alloc (.cells #[.slice a12 n12 c12] 26))) := (HW11.out.trans (hb12.mono HW11.out.size)).trans (hst12.mono (Nat.le_trans HW11.out.size hb12.size))
    have hz12 : w11.heap.size + 1 ≤ w12.heap.size := by have := hb12.size; rw [size_alloc1] at this; exact this
    have O12 := Lib.hid ((ho12.mono HW11.out.size).keep hst12)
    have O1112 := Lib.hid ((O11.out.keep hb12).keep hst12)
    have B1112 := Lib.hid ((B11.out.keep hb12).keep hst12)
    have B12 := Lib.hid (BoxAt.new w12 (.slice a12 n12 c12) 26)
    have HD12 := Lib.hid (HD4.out.keep HW12.out)
    have HOL12 := Lib.hid (HO4.out.keep HW12.out)
    have B412 := Lib.hid (BX4.out.keep HW12.out)
    have HT12 := Lib.hid (HT4.out.under HW12.out (by have := HT4.out.size; omega))
    clear ho12 hb12 hst12 k16 O11 B11
    go_wp2_with fail
    generalize hw13 : (w12.alloc (.cells #[.slice a12 n12 c12] 26)) = w13 at HW12 O12 O1112 B1112 B12 HD12 HOL12 B412 HT12 ⊢
    clear hw13
    have kb13 := B412.out.1
    have hl13 : w2.heap.size < w13.heap.size := B412.out.lt
    have hdl13 : d < w13.heap.size := HD12.out.lt
    have HZ : Hid (Below w13.heap.size w13 w13.drew) := (Below.refl _ _).drew
    have HY : Hid (∀ o, Below w13.heap.size w13 (w13.alloc o).drew) := fun o => ((Below.refl _ _).alloc (Nat.le_refl _) _).drew
    have HYB : Hid (∀ w', Below w13.heap.size w13 w' → BytesAt w' d (.slice a0 n0 c0) n0 ∧ DiceAt w' d (.slice a0 n0 c0) n0) := fun w' h => ⟨(HT12.out.bytes HY1.out (Nat.le_of_lt hdl1)).keepB h (Nat.le_of_lt hdl13), HD12.out.keep h⟩
    have HS0 : Hid (∀ w', Below w13.heap.size w13 w' → w'.cell? ⟨w2.heap.size, 0, none⟩ = some (.slice a2 L.length c2)) := fun w' h => (B412.out.keep h).1
    have HOK : Hid (∀ w', Touched d (d + 1) w13 w' → OwnGrid 2 34 w' w1.heap.size (.slice a2 L.length c2) L) := fun w' h => HOL12.out.touched h (by omega)
    have HBK : Hid (∀ w', Touched d (d + 1) w13 w' → BoxAt w' w2.heap.size (.slice a2 L.length c2)) := fun w' h => B412.out.touched h (by omega) hl13
    have hL16 : L.length < 16 := by omega
    go_cut [20, 21] (fun p b wx => CutSet w13 d L p b wx)
    case first =>
      go_region_held3 (fun wx => wx.cell? ⟨w2.heap.size, 0, none⟩ = some (.slice a2 L.length c2)) (first | exact kb13 | with_reducible exact HS0.out _ HZ.out | with_reducible exact HS0.out _ (HY.out _) | with_reducible exact HSA.out _ (Below.refl _ _) | with_reducible exact HSA.out _ ((Below.refl _ _).alloc (Nat.le_refl _) _) | with_reducible exact HSA.out _ HB14.out | with_reducible exact HSA.out _ (HB14.out.alloc HB14.out.size _) | exact cell_set_blk _ (by simp; omega) (HSA.out _ HB14.out))
        (first
          | (go_at_call 44; refine (w5Set_any d n0 L.length _ _ (HYB.out _ (by first | with_reducible exact HZ.out | with_reducible exact HY.out _)).2 (HYB.out _ (by first | with_reducible exact HZ.out | with_reducible exact HY.out _)).1 (by omega)).mono ?_; rintro e wA ⟨xs, ax, nx, cx, rfl, hxs, hox, hdA, htA⟩; have HTA : Hid (Touched d (d + 1) w13 wA) := (by first | exact (Touched.ofBelow HZ.out).trans htA | exact (Touched.ofBelow (HY.out _)).trans htA); have HXS := Lib.hid hxs; have HOX : Hid (∀ w', Below wA.heap.size wA w' → RowAt w' (.slice ax nx cx) xs) := (fun w' h => (hox.keep h).row); have HSA : Hid (∀ w', Below wA.heap.size wA w' → w'.cell? ⟨w2.heap.size, 0, none⟩ = some (.slice a2 L.length c2)) := (fun w' h => ((HBK.out _ HTA.out).keep h).1); have HGA : Hid (∀ w', Below wA.heap.size wA w' → GridAt w' (.slice a2 L.length c2) L) := (fun w' h => ((HOK.out _ HTA.out).keep h).grid); (first | (have bxA := (((BoxAt.new w13 (.slice none 0 0) 26).keep (Below.refl _ _).drew).touched htA (by omega) (by show w13.heap.size < (w13.alloc _).heap.size; rw [size_alloc1]; omega)); have hbo : w13.heap.size ≤ w13.heap.size := Nat.le_refl _) | skip); clear hxs hox hdA htA)
          | (go_at_call 43; refine (implAddedVertex_any _ _ L xs _ (HGA.out _ (by first | with_reducible exact Below.refl _ _ | with_reducible exact (Below.refl _ _).alloc (Nat.le_refl _) _)) (HOX.out _ (by first | with_reducible exact Below.refl _ _ | with_reducible exact (Below.refl _ _).alloc (Nat.le_refl _) _))).mono ?_; rintro e wB ⟨nB, aB, cB, rfl, hoB, hbB⟩; rw [(undone_vertex HG.out HXS.out hL16).1]; have HB14 : Hid (Below wA.heap.size wA wB) := (by first | exact hbB | exact ((Below.refl _ _).alloc (Nat.le_refl _) _).trans (hbB.mono (by rw [size_alloc1]; exact Nat.le_succ _))); have OB := Lib.hid hoB; (first | (have bxB := bxA.keep hbB; have hlB := bxA.lt) | (have bxB := (BoxAt.new wA (.slice none 0 0) 26).keep hbB; have hlB : wA.heap.size < (wA.alloc (.cells #[.slice none 0 0] 26)).heap.size := (by rw [size_alloc1]; exact Nat.lt_succ_self _); have hbo : w13.heap.size ≤ wA.heap.size := HTA.out.size) | skip); (first | (have kx := bxB.1; have fx := bxB.2) | skip); clear hoB hbB))
      all_goals (
        go_wp2_with fail
        go_meet
        first | exact CutSet.first HXS.out HTA.out HB14.out OB.out bxB hlB hbo | exact CutSet.last HXS.out HTA.out HB14.out OB.out)
    case rest =>
      rename World => w14
      obtain ⟨xs, bo, a14, n14, c14, rfl, rfl, hxs, hbx14, hg14, ht14⟩ := hcut
      obtain ⟨-, -, hcb, hcl⟩ := undone_vertex HG.out hxs hL16
      have HCB := Lib.hid hcb
      have HCL := Lib.hid hcl
      have B4x := Lib.hid (HBK.out _ ht14)
      have B16x := Lib.hid (B1112.out.touched ht14 (by have := B1112.out.lt; omega) B1112.out.lt)
      have B18x := Lib.hid (B12.out.touched ht14 (by have := B12.out.lt; omega) B12.out.lt)
      have G4x := Lib.hid (HOK.out _ ht14).grid
      have G16x := Lib.hid (O1112.out.touched ht14 (by omega)).grid
      have G18x := Lib.hid (O12.out.touched ht14 (by omega)).grid
      have HG14 := Lib.hid hg14
      have k20 := hbx14.1
      have HTW : Hid (Touched d (d + 1) w1 w14) := HT12.out.trans ht14
      clear hcb hcl hxs hbx14 hg14 ht14 kb13
      go_wp2_with fail
      refine (implCutVertex_any _ (avL L xs) (L.length : Int) _ HG14.out (by unfold I64; omega)).mono ?_
      rintro e w15 ⟨n15, a15, c15, rfl, ho15, hb15⟩
      rw [HCB.out]
      rw [HCL.out] at ho15
      have hst15 : Below w15.heap.size w15 (w15.alloc (.cells #[.slice a15 n15 c15] 26)) := (Below.refl _ _).alloc (Nat.le_refl _) _
      have HW15 : Hid (Below w14.heap.size w14 (w15.alloc (.cells #[.slice a15 n15 c15] 26))) := hb15.alloc hb15.size _
      have G22 := Lib.hid (ho15.keep hst15).grid
      have B22 := Lib.hid (BoxAt.new w15 (.slice a15 n15 c15) 26)
      clear ho15 hb15 hst15 k20
      go_wp2_with fail
      generalize hw16 : (w15.alloc (.cells #[.slice a15 n15 c15] 26)) = w16 at HW15 G22 B22 ⊢
      clear hw16
      have k4 := (B4x.out.keep HW15.out).1
      have k16 := (B16x.out.keep HW15.out).1
      have k18 := (B18x.out.keep HW15.out).1
      have k22 := B22.out.1
      have kl4 := fun x : Later w16 => x.cell k4
      have kl16 := fun x : Later w16 => x.cell k16
      have kl18 := fun x : Later w16 => x.cell k18
      have kl22 := fun x : Later w16 => x.cell k22
      have HSB2 : Hid (sameB L L = true) := by show sameB L L = true; unfold sameB; rw [decide_eq_true HG.out, decide_eq_true rfl]; rfl
      have hcA : Hid (∀ x : Later w16, Calls Try.prog 27 #[.agg #[.slice a12 n12 c12], .agg #[.slice a2 L.length c2]] x.at fun e w5 => e = .returned (.bool true) ∧ ∃ y : Later w16, w5 = y.at) :=
        fun x => Calls.later ((implSameGraph_any _ _ L L _ ((G18x.out.keep HW15.out).keep x.bel) ((G4x.out.keep HW15.out).keep x.bel)).mono fun _ _ ⟨h1, h2⟩ => ⟨by rw [h1, HSB2.out], h2⟩)
      have hcB : Hid (∀ x : Later w16, Calls Try.prog 27 #[.agg #[.slice a15 n15 c15], .agg #[.slice a2 L.length c2]] x.at fun e w5 => e = .returned (.bool true) ∧ ∃ y : Later w16, w5 = y.at) :=
        fun x => Calls.later ((implSameGraph_any _ _ L L _ (G22.out.keep x.bel) ((G4x.out.keep HW15.out).keep x.bel)).mono fun _ _ ⟨h1, h2⟩ => ⟨by rw [h1, HSB2.out], h2⟩)
      obtain ⟨eA, heA⟩ : ∃ eA : Nat, manyN (compL L) = (eA : Int) := ⟨(edgesL (compL L)).length, rfl⟩
      obtain ⟨eB, heB⟩ : ∃ eB : Nat, manyN L = (eB : Int) := ⟨(edgesL L).length, rfl⟩
      have hmany := comp_many HG.out
      rw [heA, heB] at hmany
      have HEA := Lib.hid heA
      have HEB := Lib.hid heB
      have hcC : Hid (∀ x : Later w16, Calls Try.prog 21 #[.agg #[.slice a11 n11 c11]] x.at fun e w5 => e = .returned (.int .i64 (eA : Int)) ∧ ∃ y : Later w16, w5 = y.at) :=
        fun x => Calls.later ((implManyEdges_any _ (compL L) _ ((G16x.out.keep HW15.out).keep x.bel)).mono fun _ _ ⟨h1, h2⟩ => ⟨by rw [h1, HEA.out], h2⟩)
      have hcD : Hid (∀ x : Later w16, Calls Try.prog 21 #[.agg #[.slice a2 L.length c2]] x.at fun e w5 => e = .returned (.int .i64 (eB : Int)) ∧ ∃ y : Later w16, w5 = y.at) :=
        fun x => Calls.later ((implManyEdges_any _ L _ ((G4x.out.keep HW15.out).keep x.bel)).mono fun _ _ ⟨h1, h2⟩ => ⟨by rw [h1, HEB.out], h2⟩)
      obtain ⟨nn, hnn⟩ : ∃ nn : Int, nn = (L.length : Int) := ⟨_, rfl⟩
      have hmul : 2 * ((eA : Int) + (eB : Int)) = nn * (nn - 1) := by rw [hnn]; exact hmany
      have hb1 : 0 ≤ nn * (nn - 1) ∧ nn * (nn - 1) ≤ 64 := by
        have h1 : 1 ≤ nn ∧ nn ≤ 8 := by omega
        obtain ⟨h1, h2⟩ := h1
        exact ⟨Int.mul_nonneg (by omega) (by omega), by have := Int.mul_le_mul h2 (show nn - 1 ≤ 8 by omega) (by omega) (by omega); omega⟩
      rw [← hnn]
      have hw2 : IntKind.i64.wrap (nn - 1) = nn - 1 := IntWalk.i64_in _ (by omega)
      have hw3 : IntKind.i64.wrap (nn * (nn - 1)) = nn * (nn - 1) := IntWalk.i64_in _ (by omega)
      have hq : (nn * (nn - 1)).tdiv 2 = (eA : Int) + (eB : Int) := by rw [← hmul]; exact Int.mul_tdiv_cancel_left _ (by omega)
      have hw1 : IntKind.i64.wrap ((eA : Int) + (eB : Int)) = (eA : Int) + (eB : Int) := IntWalk.i64_in _ (by omega)
      have heq : (((eA : Int) + (eB : Int)) == ((eA : Int) + (eB : Int))) = true := by simp
      clear heA heB hmany hmul hb1 hnn k4 k16 k18 k22
      refine wp_region_later (by kernel_rfl) (by kernel_rfl) ?_
      repeat (go_big_quiet_step ((first | (go_at_call 27; first | with_reducible exact hcA.out _ | with_reducible exact hcB.out _) | (go_at_call 21; first | with_reducible exact hcC.out _ | with_reducible exact hcD.out _))))
      refine wpQuiet_nil ?_
      rintro _ ⟨x, rfl⟩
      have hdw : d = w.heap.size := HDD.out
      have hfin : Below d w x.at := ((HW1.out.trans (HTW.out.below (Nat.le_of_lt hdl1))).trans (HW15.out.mono (by have := HTW.out.size; omega))).trans (x.bel.mono (by have := HTW.out.size; have := HW15.out.size; omega))
      rw [hdw] at hfin
      have HFIN := Lib.hid hfin
      clear hfin hdw kl4 kl16 kl18 kl22 hw1 hw2 hw3 hq heq hcA hcB hcC hcD
      go_wp2
      go_ret
      exact ⟨rfl, HFIN.out⟩)

end Go.Proofs.Ytikfbfclbmlopaa
