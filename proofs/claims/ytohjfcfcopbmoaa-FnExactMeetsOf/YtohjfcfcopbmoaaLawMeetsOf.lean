/- The walk of the law FnExactMeetsOf. -/
import Derived.Test.YtohjfcfcopbmoaaDM9
import Derived.Test.YtohjfcfcopbmoaaDE7
import Derived.Deep.RegionHeld3

namespace Go.Proofs.Ytohjfcfcopbmoaa
open Go.RowKit

theorem meetsL_small {B K : List (List Int)} (hs : ∀ i, i < B.length → (nthR B i).length ≤ 1048576) : Small (meetsL B K) := by
  unfold meetsL
  by_cases hF : FormP B K
  · rw [if_pos hF]
    refine ⟨by rw [List.length_map]; have := hF.1; omega, fun i hi => ?_⟩
    rw [List.length_map] at hi
    obtain ⟨e1, e2, e3, e4⟩ := hF.2.2.2 i hi
    rw [show nthR (K.map (meetL B)) i = meetL B (nthR K i) by simp [nthR, hi]]
    unfold meetL
    refine Nat.le_trans (List.length_filter_le _ _) (hs _ ?_)
    omega
  · rw [if_neg hF]
    exact ⟨by simp, fun i hi => absurd hi (by simp)⟩

theorem Box2.apart {T : TypeId} {w w' : World} {B U b : Nat} {x y : Value} (h : Box2 T w b x y) (ht : Touched B U w w') (hd : b < B ∨ U ≤ b) : Box2 T w' b x y := by
  unfold Box2
  rw [ht.other b h.lt hd]; exact h

set_option maxHeartbeats 8000000 in
set_option maxRecDepth 100000 in
theorem lawMeetsOf (v u : Value) (B K : List (List Int)) (w : World) (h : GridAt w v B) (h' : GridAt w u K) :
    Calls Try.prog 6 #[.agg #[v, u]] w fun e w' => e = .returned (.bool true) ∧ Below w.heap.size w w' := by
  obtain ⟨a, c, rfl⟩ := h.slice
  obtain ⟨a', c', rfl⟩ := h'.slice
  have HG : Hid (∀ W, Below w.heap.size w W → GridAt W (.slice a B.length c) B) := fun W hb => h.keep hb
  have HK : Hid (∀ W, Below w.heap.size w W → GridAt W (.slice a' K.length c') K) := fun W hb => h'.keep hb
  have HA : Hid (Below w.heap.size w (w.alloc (.cells #[.slice a B.length c, .slice a' K.length c'] 24))) := (Below.refl _ _).alloc (Nat.le_refl _) _
  have X0 : Hid (Box2 24 (w.alloc (.cells #[.slice a B.length c, .slice a' K.length c'] 24)) w.heap.size (.slice a B.length c) (.slice a' K.length c')) := Box2.new _ _ _ _
  clear h h'
  go_enter Try.func6, Try.ntmps6
  go_wp2_with fail
  refine (szDecomp_any _ _ B K _ _ (HG.out _ HA.out) (HK.out _ HA.out) (by omega) (by omega)).mono ?_
  rintro e w1 ⟨rfl, hb1⟩
  have HB1 : Hid (Below w.heap.size w w1) := HA.out.trans (hb1.mono HA.out.size)
  have X1 := Lib.hid (X0.out.keep hb1)
  clear hb1 X0 HA
  by_cases hs : szTwo B K 1048576 < 0
  · go_wp2
    go_ret
    exact ⟨rfl, HB1.out⟩
  obtain ⟨hsB, hsK, hle⟩ := szTwo_small (by omega) hs
  have HS2 : Hid (∀ i, i < B.length → (nthR B i).length ≤ 2000000) := fun i hi => by have := hsB.2 i hi; omega
  obtain ⟨E, hE⟩ : ∃ E, E = meetsL B K := ⟨_, rfl⟩
  have hsE : Small E := by rw [hE]; exact meetsL_small hsB.2
  have HE := Lib.hid hE
  clear hE
  have k0 := X1.out.c0
  have k1 := X1.out.c1
  go_wp2_with fail
  refine (toDecomp_any _ _ B K _ (HG.out _ HB1.out) (HK.out _ HB1.out) hsB hsK).mono ?_
  rintro e w2 ⟨U2, n2, a2, c2, m2, d2, f2, rfl, ho2, hp2, hu2, hb2⟩
  have HB2 : Hid (Below w.heap.size w w2) := HB1.out.trans (hb2.mono HB1.out.size)
  have X2 := Lib.hid (X1.out.keep hb2)
  have O2 := Lib.hid ho2.read
  have P2 := Lib.hid hp2.grid
  clear hb2 X1 HB1 ho2 hp2 hu2 k0 k1
  go_wp2_with fail
  refine (specMeetsOf_any _ _ B K _ O2.out P2.out HS2.out).mono ?_
  rintro e w3 ⟨n3, a3, c3, rfl, ho3, hb3⟩
  rw [← HE.out] at ho3
  have HB3 : Hid (Below w.heap.size w w3) := HB2.out.trans (hb3.mono HB2.out.size)
  have X3 := Lib.hid (X2.out.keep hb3)
  have S3 := Lib.hid ho3.grid
  have T3 : Hid (OwnGridU 2 33 w3 w2.heap.size w3.heap.size (.slice a3 n3 c3) E) := ho3.under
  clear hb3 X2 HB2 O2 P2 ho3
  have k0 := X3.out.c0
  have k1 := X3.out.c1
  go_wp2_with fail
  refine (toDecomp_any _ _ B K _ (HG.out _ HB3.out) (HK.out _ HB3.out) hsB hsK).mono ?_
  rintro e w4 ⟨U4, n4, a4, c4, m4, d4, f4, rfl, ho4, hp4, hu4, hb4⟩
  have HB4 : Hid (Below w.heap.size w w4) := HB3.out.trans (hb4.mono HB3.out.size)
  have X4 := Lib.hid (X3.out.keep hb4)
  have T4 := Lib.hid (T3.out.keep hb4)
  have O4 := Lib.hid ho4
  have P4 := Lib.hid hp4.under
  have hz34 : w3.heap.size ≤ w4.heap.size := hb4.size
  have hU4 := hu4
  clear hb4 HB3 T3 ho4 hp4 hu4 k0 k1
  have ha5 : Below w4.heap.size w4 (w4.alloc (.cells #[.slice a4 n4 c4, .slice d4 m4 f4] 27)) := (Below.refl _ _).alloc (Nat.le_refl _) _
  have HB5 : Hid (Below w.heap.size w (w4.alloc (.cells #[.slice a4 n4 c4, .slice d4 m4 f4] 27))) := HB4.out.trans (ha5.mono HB4.out.size)
  have X5 := Lib.hid (X4.out.keep ha5)
  have Y5 : Hid (Box2 27 (w4.alloc (.cells #[.slice a4 n4 c4, .slice d4 m4 f4] 27)) w4.heap.size (.slice a4 n4 c4) (.slice d4 m4 f4)) := Box2.new _ _ _ _
  have T5 := Lib.hid (T4.out.keep ha5)
  have O5 := Lib.hid (O4.out.keep ha5)
  have P5 := Lib.hid (P4.out.keep ha5)
  clear ha5 X4 O4 P4 HB4 T4
  go_wp2_with fail
  refine (implMeetsOf_any _ _ B K _ O5.out.read P5.out.read HS2.out).mono ?_
  rintro e w6 ⟨n6, a6, c6, rfl, ho6, hb6⟩
  rw [← HE.out] at ho6
  rw [size_alloc1] at ho6
  have HB6 : Hid (Below w.heap.size w w6) := HB5.out.trans (hb6.mono HB5.out.size)
  have X6 := Lib.hid (X5.out.keep hb6)
  have Y6 := Lib.hid (Y5.out.keep hb6)
  have T6 := Lib.hid (T5.out.keep hb6)
  have O6 := Lib.hid (O5.out.keep hb6)
  have P6 := Lib.hid (P5.out.keep hb6)
  have G6 : Hid (OwnGridU 2 33 w6 (w4.heap.size + 1) w6.heap.size (.slice a6 n6 c6) E) := ho6.under
  have hz46 : w4.heap.size + 1 ≤ w6.heap.size := by have := hb6.size; simpa using this
  clear hb6 X5 Y5 O5 P5 HB5 T5 ho6
  go_wp2_with fail
  refine (eqInt64SS_b _ _ E E _ G6.out.read T6.out.read).mono ?_
  rintro e w7 ⟨rfl, hb7⟩
  rw [decide_eq_true rfl]
  have HB7 : Hid (Below w.heap.size w w7) := HB6.out.trans (hb7.mono HB6.out.size)
  have X7 := Lib.hid (X6.out.keep hb7)
  have Y7 := Lib.hid (Y6.out.keep hb7)
  have T7 := Lib.hid (T6.out.keep hb7)
  have O7 := Lib.hid (O6.out.keep hb7)
  have P7 := Lib.hid (P6.out.keep hb7)
  have G7 := Lib.hid (G6.out.keep hb7)
  have hz67 : w6.heap.size ≤ w7.heap.size := hb7.size
  clear hb7 X6 Y6 O6 P6 HB6 T6 G6
  have k0 := X7.out.c0
  have k1 := X7.out.c1
  have y0 := Y7.out.c0
  have y1 := Y7.out.c1
  go_wp2
  go_region_held3 (fun wx => wx.cell? ⟨w.heap.size, 0, none⟩ = some (.slice a B.length c) ∧ wx.cell? ⟨w.heap.size, 1, none⟩ = some (.slice a' K.length c') ∧ wx.cell? ⟨w4.heap.size, 0, none⟩ = some (.slice a4 n4 c4) ∧ wx.cell? ⟨w4.heap.size, 1, none⟩ = some (.slice d4 m4 f4)) (first | exact ⟨k0, k1, y0, y1⟩ | exact ⟨X8.out.c0, X8.out.c1, Y8.out.c0, Y8.out.c1⟩ | exact ⟨X9.out.c0, X9.out.c1, Y9.out.c0, Y9.out.c1⟩)
    (first
      | (go_at_call 9; refine (toDecomp_any _ _ B K _ (HG.out _ HB7.out.drew) (HK.out _ HB7.out.drew) hsB hsK).mono ?_; rintro e w8 ⟨U8, n8, a8, c8, m8, d8, f8, rfl, ho8, hp8, hu8, hb8⟩; have HB8 : Hid (Below w.heap.size w w8) := HB7.out.drew.trans (hb8.mono HB7.out.size); have HB78 : Hid (Below w7.heap.size w7 w8) := (Below.refl _ _).drew.trans hb8; have X8 := Lib.hid (X7.out.keep HB78.out); have Y8 := Lib.hid (Y7.out.keep HB78.out); have Q8 := Lib.hid ho8.read; have R8 := Lib.hid hp8.grid; clear hb8 ho8 hp8 hu8)
      | (go_at_call 11; refine (eqDecomp_any _ _ _ _ B K B K _ (O7.out.keep HB78.out).read (P7.out.keep HB78.out).read Q8.out R8.out).mono ?_; rintro e w9 ⟨rfl, hb9⟩; have HB9 : Hid (Below w.heap.size w w9) := HB8.out.trans (hb9.mono HB8.out.size); have HB79 : Hid (Below w7.heap.size w7 w9) := HB78.out.trans (hb9.mono HB78.out.size); have X9 := Lib.hid (X8.out.keep hb9); have Y9 := Lib.hid (Y8.out.keep hb9); clear hb9; rw [decide_eq_true ⟨rfl, rfl⟩]))
  have T9 := Lib.hid (T7.out.keep HB79.out)
  have O9 := Lib.hid (O7.out.keep HB79.out)
  have P9 := Lib.hid (P7.out.keep HB79.out)
  have G9 := Lib.hid (G7.out.keep HB79.out)
  have hz79 : w7.heap.size ≤ w9.heap.size := HB79.out.size
  clear k0 k1 y0 y1 X8 Y8 Q8 R8 HB8 HB78 X7 Y7 O7 P7 T7 G7 HB7
  have htB := totTo_le hsB.2 B.length (Nat.le_refl _)
  have htB2 : 1048576 * B.length ≤ 1048576 * 1048576 := by have := hsB.1; omega
  have htK := totTo_le hsK.2 K.length (Nat.le_refl _)
  have htK2 : 1048576 * K.length ≤ 1048576 * 1048576 := by have := hsK.1; omega
  have htE := totTo_le hsE.2 E.length (Nat.le_refl _)
  have htE2 : 1048576 * E.length ≤ 1048576 * 1048576 := by have := hsE.1; omega
  have hz2 : w.heap.size < w3.heap.size := X3.out.lt
  have y0 := Y9.out.c0
  have y1 := Y9.out.c1
  go_wp2_with fail
  refine (markDecomp_any _ _ B K w3.heap.size U4 w4.heap.size 1 _ O9.out P9.out ⟨hU4.1, hU4.2, by omega⟩ (by omega) (by omega) hsB hsK).mono ?_
  rintro e wA ⟨rfl, htA⟩
  have HBA : Hid (Below w.heap.size w wA) := HB9.out.trans ((htA.below (by omega)).mono (by omega))
  have XA := Lib.hid (X9.out.apart htA (by omega))
  have TA := Lib.hid (T9.out.apart htA (by omega))
  have GA := Lib.hid (G9.out.apart htA (by omega))
  have hzA : w9.heap.size ≤ wA.heap.size := htA.size
  have hkpos : 0 ≤ 1 + (totTo B B.length : Int) + (totTo K K.length : Int) := by omega
  have hkneg : ¬ 1 + (totTo B B.length : Int) + (totTo K K.length : Int) < 0 := by omega
  clear htA X9 Y9 O9 P9 T9 G9 HB9 HB79 y0 y1
  go_wp2_with fail
  refine (eqInt64SS_b _ _ E E _ GA.out.read TA.out.read).mono ?_
  rintro e wB ⟨rfl, hbB⟩
  rw [decide_eq_true rfl]
  have HBB : Hid (Below w.heap.size w wB) := HBA.out.trans (hbB.mono HBA.out.size)
  have XB := Lib.hid (XA.out.keep hbB)
  have TB := Lib.hid (TA.out.keep hbB)
  have GB := Lib.hid (GA.out.keep hbB)
  have hzB : wA.heap.size ≤ wB.heap.size := hbB.size
  clear hbB XA TA GA HBA
  go_wp2_with fail
  refine (markInt64SS_any _ E (w4.heap.size + 1) w6.heap.size 1 _ GB.out (by omega) (by omega) hsE).mono ?_
  rintro e wC ⟨rfl, hgC, htC⟩
  have HBC : Hid (Below w.heap.size w wC) := HBB.out.trans ((htC.below (by omega)).mono (by omega))
  have XC := Lib.hid (XB.out.apart htC (by omega))
  have TC := Lib.hid (TB.out.apart htC (by omega))
  have GC := Lib.hid hgC
  have hzC : wB.heap.size ≤ wC.heap.size := htC.size
  have hmpos : ¬ 1 + (totTo E E.length : Int) < 0 := by omega
  have hmne : ((1 + (totTo E E.length : Int)) != (1 + (totTo E E.length : Int))) = false := by simp
  clear hgC htC XB TB GB HBB
  go_wp2_with fail
  refine (heldInt64SS_b _ E 1 _ GC.out.read (by omega) (by omega) hsE).mono ?_
  rintro e wD ⟨rfl, hbD⟩
  have HBD : Hid (Below w.heap.size w wD) := HBC.out.trans (hbD.mono HBC.out.size)
  have XD := Lib.hid (XC.out.keep hbD)
  have TD := Lib.hid (TC.out.keep hbD)
  have GD := Lib.hid (GC.out.keep hbD)
  clear hbD XC TC GC HBC
  have k0 := XD.out.c0
  have k1 := XD.out.c1
  go_wp2_with fail
  refine (toDecomp_any _ _ B K _ (HG.out _ HBD.out) (HK.out _ HBD.out) hsB hsK).mono ?_
  rintro e wE ⟨UE, nE, aE, cE, mE, dE, fE, rfl, hoE, hpE, huE, hbE⟩
  have HBE : Hid (Below w.heap.size w wE) := HBD.out.trans (hbE.mono HBD.out.size)
  have TE := Lib.hid (TD.out.keep hbE)
  have GE := Lib.hid (GD.out.keep hbE)
  have OE := Lib.hid hoE.read
  have PE := Lib.hid hpE.grid
  clear hbE XD TD GD HBD hoE hpE huE k0 k1
  go_wp2_with fail
  refine (implMeetsOf_any _ _ B K _ OE.out PE.out HS2.out).mono ?_
  rintro e wF ⟨nF, aF, cF, rfl, hoF, hbF⟩
  rw [← HE.out] at hoF
  have HBF : Hid (Below w.heap.size w wF) := HBE.out.trans (hbF.mono HBE.out.size)
  have TF := Lib.hid (TE.out.keep hbF)
  have GF := Lib.hid (GE.out.keep hbF)
  have HF := Lib.hid hoF.grid
  clear hbF TE GE OE PE HBE hoF
  go_wp2_with fail
  refine (eqInt64SS_b _ _ E E _ HF.out TF.out.read).mono ?_
  rintro e wG ⟨rfl, hbG⟩
  rw [decide_eq_true rfl]
  have HBG : Hid (Below w.heap.size w wG) := HBF.out.trans (hbG.mono HBF.out.size)
  have GG := Lib.hid (GF.out.keep hbG)
  clear hbG TF GF HF HBF
  go_wp2_with fail
  refine (heldInt64SS_b _ E 1 _ GG.out.read (by omega) (by omega) hsE).mono ?_
  rintro e wH ⟨rfl, hbH⟩
  have HBH : Hid (Below w.heap.size w wH) := HBG.out.trans (hbH.mono HBG.out.size)
  clear hbH GG HBG
  go_wp2
  go_ret
  exact ⟨rfl, HBH.out⟩

end Go.Proofs.Ytohjfcfcopbmoaa
