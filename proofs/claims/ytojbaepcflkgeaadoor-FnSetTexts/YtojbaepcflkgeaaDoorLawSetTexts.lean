/- The walk of FnSetTexts. -/
import Derived.Test.YtojbaepcflkgeaaDoorQLB2
import Derived.Test.YtojbaepcflkgeaaDoorQTS6
import Derived.Test.YtojbaepcflkgeaaDoorQST1
import Derived.Test.YtojbaepcflkgeaaDoorK4
import Derived.Test.YtojbaepcflkgeaaDoorQK2

namespace Go.Proofs.YtojbaepcflkgeaaDoor
open Go.RowKit

set_option maxHeartbeats 4000000 in
set_option maxRecDepth 100000 in
theorem lawSetTexts (a0 : Option Addr) (n0 c0 : Nat) (w : World) (hb : n0 ≤ 4096 → BytesAt w w.heap.size (.slice a0 n0 c0) n0) (hT : VarsAt w) :
    Calls Tryd.prog 4 #[.slice a0 n0 c0] w fun e w' => e = .returned (.bool true) ∧ Below w.heap.size w w' := by
  have HBY := Lib.hid hb
  clear hb
  go_enter Tryd.func4, Tryd.ntmps4
  go_wp2_with fail
  refine (big_any _ _ _ _).mono ?_
  rintro e w' ⟨rfl, rfl⟩
  by_cases hbig : (4096 : Int) < (n0 : Int)
  · rw [decide_eq_true hbig]
    go_wp2
    go_ret
    exact ⟨rfl, Below.refl _ _⟩
  rw [decide_eq_false hbig]
  go_wp2_with fail
  refine (drawSetText_any n0 _ _ (HBY.out (by omega))).mono ?_
  rintro e w1 ⟨xs, a1, k1, c1, rfl, hxl, ho1, hb1⟩
  have HO1 := Lib.hid ho1
  have HB1 := Lib.hid hb1
  clear ho1 hb1
  go_wp2_with fail
  refine (implSetText_any _ xs _ HO1.out.row).mono ?_
  rintro e w2 ⟨rfl, hb2⟩
  have HO2 := Lib.hid (HO1.out.keep hb2)
  have HB2 : Hid (Below w.heap.size w w2) := HB1.out.trans (hb2.mono HB1.out.size)
  obtain ⟨X, hX⟩ : ∃ X, stL xs = X := ⟨_, rfl⟩
  have HX := Lib.hid hX
  have hXl : X.length ≤ 800 := by rw [← hX]; exact stL_short xs
  have hXs := bsL_size X
  rw [hX]
  clear hb2 hX HO1 HB1
  go_wp2_with fail
  refine (specSetText_any _ xs _ HO2.out.row).mono ?_
  rintro e w3 ⟨rfl, hb3⟩
  rw [HX.out]
  have HO3 := Lib.hid (HO2.out.keep hb3)
  have HB3 : Hid (Below w.heap.size w w3) := HB2.out.trans (hb3.mono HB2.out.size)
  clear hb3 HO2 HB2
  by_cases hx0 : X = []
  · have hcmp : ((bsL X).toList == ([] : List UInt8)) = true := by rw [bsL_list, hx0]; rfl
    have HBZ := HB3
    clear hx0 HB3 HO3 HX
    go_wp2_with fail
    refine (drawTextSet_any n0 _ _ (((HBY.out (by omega)).keepB HBZ.out (Nat.le_refl _)).wide HBZ.out.size)).mono ?_
    rintro e wa ⟨u, rfl, hul, hba⟩
    have HBa : Hid (Below w.heap.size w wa) := HBZ.out.trans (hba.mono HBZ.out.size)
    clear hba HBZ
    go_wp2_with fail
    refine (implTextSet_any u _ (by omega) (hT.keep HBa.out)).mono ?_
    rintro e wb ⟨nb, ab, cb, rfl, hob, hbb⟩
    have HOb := Lib.hid hob
    have HBb : Hid (Below w.heap.size w wb) := HBa.out.trans (hbb.mono HBa.out.size)
    have hsz := bsL_size u
    obtain ⟨B, hB⟩ : ∃ B, tsB u = B := ⟨_, rfl⟩
    have HTB := Lib.hid hB
    rw [hB]
    clear hob hbb hB HBa
    go_wp2_with fail
    refine (specTextSet_any u _ (by omega)).mono ?_
    rintro e wc ⟨nc, ac, cc, rfl, _, hbc⟩
    rw [HTB.out]
    have HOc := Lib.hid (HOb.out.keep hbc)
    have HBc : Hid (Below w.heap.size w wc) := HBb.out.trans (hbc.mono HBb.out.size)
    clear hbc HBb HOb
    cases B with
    | false =>
      go_wp2
      go_ret
      exact ⟨rfl, HBc.out⟩
    | true =>
      go_wp2_with fail
      refine (implSetText_any _ (tsL u) _ HOc.out.row).mono ?_
      rintro e wd ⟨rfl, hbd⟩
      rw [ts_back HTB.out]
      have HBd : Hid (Below w.heap.size w wd) := HBc.out.trans (hbd.mono HBc.out.size)
      clear hbd HBc
      go_wp2
      go_ret
      exact ⟨rfl, HBd.out⟩
  · have hcmp : ((bsL X).toList == ([] : List UInt8)) = false := by rw [bsL_list]; simpa using hx0
    have hbk := stL_back (xs := xs) (by rw [HX.out]; exact hx0)
    rw [HX.out] at hbk
    obtain ⟨hb1, hb2⟩ := hbk
    have HY1 := Lib.hid hb1
    have HY2 := Lib.hid hb2
    clear hb1 hb2 hx0
    go_wp2_with fail
    refine (implTextSet_any X _ (by omega) (hT.keep HB3.out)).mono ?_
    rintro e w4 ⟨n4, a4, c4, rfl, ho4, hb4⟩
    rw [HY2.out] at ho4
    rw [HY1.out]
    have HO4 := Lib.hid ho4
    have HS4 := Lib.hid (HO3.out.keep hb4)
    have HB4 : Hid (Below w.heap.size w w4) := HB3.out.trans (hb4.mono HB3.out.size)
    clear ho4 hb4 HO3 HB3
    go_wp2_with fail
    refine (likeInts_any _ _ xs xs _ HO4.out.row HS4.out.row).mono ?_
    rintro e w5 ⟨rfl, hd⟩
    rw [decide_eq_true rfl]
    have HBZ : Hid (Below w.heap.size w w5) := by
      obtain ⟨j, rfl⟩ := hd
      exact ⟨HB4.out.os, HB4.out.tape, HB4.out.output, HB4.out.size, HB4.out.block⟩
    clear hd HB4 HO4 HS4 hcmp
    go_wp2_with fail
    refine (drawTextSet_any n0 _ _ (((HBY.out (by omega)).keepB HBZ.out (Nat.le_refl _)).wide HBZ.out.size)).mono ?_
    rintro e wa ⟨u, rfl, hul, hba⟩
    have HBa : Hid (Below w.heap.size w wa) := HBZ.out.trans (hba.mono HBZ.out.size)
    clear hba HBZ
    go_wp2_with fail
    refine (implTextSet_any u _ (by omega) (hT.keep HBa.out)).mono ?_
    rintro e wb ⟨nb, ab, cb, rfl, hob, hbb⟩
    have HOb := Lib.hid hob
    have HBb : Hid (Below w.heap.size w wb) := HBa.out.trans (hbb.mono HBa.out.size)
    have hsz := bsL_size u
    obtain ⟨B, hB⟩ : ∃ B, tsB u = B := ⟨_, rfl⟩
    have HTB := Lib.hid hB
    rw [hB]
    clear hob hbb hB HBa
    go_wp2_with fail
    refine (specTextSet_any u _ (by omega)).mono ?_
    rintro e wc ⟨nc, ac, cc, rfl, _, hbc⟩
    rw [HTB.out]
    have HOc := Lib.hid (HOb.out.keep hbc)
    have HBc : Hid (Below w.heap.size w wc) := HBb.out.trans (hbc.mono HBb.out.size)
    clear hbc HBb HOb
    cases B with
    | false =>
      go_wp2
      go_ret
      exact ⟨rfl, HBc.out⟩
    | true =>
      go_wp2_with fail
      refine (implSetText_any _ (tsL u) _ HOc.out.row).mono ?_
      rintro e wd ⟨rfl, hbd⟩
      rw [ts_back HTB.out]
      have HBd : Hid (Below w.heap.size w wd) := HBc.out.trans (hbd.mono HBc.out.size)
      clear hbd HBc
      go_wp2
      go_ret
      exact ⟨rfl, HBd.out⟩

end Go.Proofs.YtojbaepcflkgeaaDoor
