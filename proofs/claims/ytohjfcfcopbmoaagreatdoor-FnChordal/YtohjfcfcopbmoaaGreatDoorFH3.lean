/- The walk of FnChordal. -/
import Derived.Test.YtohjfcfcopbmoaaGreatDoorQCI1
import Derived.Test.YtohjfcfcopbmoaaGreatDoorCB7
import Derived.Test.YtohjfcfcopbmoaaGreatDoorQCQ1
import Derived.Test.YtohjfcfcopbmoaaGreatDoorCH2
import Derived.Test.YtohjfcfcopbmoaaGreatDoorQER6

namespace Go.Proofs.YtohjfcfcopbmoaaGreatDoor
open Go.RowKit

theorem bigH_any (a : Option Addr) (n cap : Nat) (w : World) : Calls Tryz.prog 11 #[.slice a n cap] w fun e w' => e = .returned (.bool (decide ((4096 : Int) < (n : Int)))) ∧ w = w' := by
  go_enter Tryz.func11, Tryz.ntmps11
  go_wp2
  go_ret
  exact ⟨rfl, rfl⟩

set_option maxHeartbeats 8000000 in
set_option maxRecDepth 100000 in
theorem lawChordal (a0 : Option Addr) (n0 c0 : Nat) (w : World) (hb : n0 ≤ 4096 → BytesAt w w.heap.size (.slice a0 n0 c0) n0) (hT : TabAt w) :
    Calls Tryz.prog 4 #[.slice a0 n0 c0] w fun e w' => e = .returned (.bool true) ∧ Below w.heap.size w w' := by
  have HBY := Lib.hid hb
  clear hb
  go_enter Tryz.func4, Tryz.ntmps4
  go_wp2_with fail
  refine (bigH_any _ _ _ _).mono ?_
  rintro e w' ⟨rfl, rfl⟩
  by_cases hbig : (4096 : Int) < (n0 : Int)
  · rw [decide_eq_true hbig]
    go_wp2
    go_ret
    exact ⟨rfl, Below.refl _ _⟩
  rw [decide_eq_false hbig]
  have hby0 := HBY.out (by omega)
  have HB0 := Lib.hid hby0
  clear hby0 HBY hbig
  go_wp2_with fail
  refine (drawChordalIn_any n0 _ w HB0.out).mono ?_
  rintro e w1 ⟨L, n, a, cap, rfl, hn17, hg1, hb1⟩
  obtain rfl : n = L.length := by
    obtain ⟨a3, c3, e3⟩ := hg1.slice
    simp only [Value.slice.injEq] at e3
    exact e3.2.1
  have hbx : Below w1.heap.size w1 (w1.alloc (.cells #[.slice a L.length cap] 26)) := (Below.refl _ _).alloc (Nat.le_refl _) _
  have HX2 : Hid (BoxAt (w1.alloc (.cells #[.slice a L.length cap] 26)) w1.heap.size (.slice a L.length cap)) := BoxAt.new _ _ _
  have HG2 := Lib.hid (hg1.keep hbx)
  have HB2 : Hid (Below w.heap.size w (w1.alloc (.cells #[.slice a L.length cap] 26))) := hb1.trans (hbx.mono hb1.size)
  have k2 := HX2.out.1
  clear hg1 hb1 hbx
  go_wp2_with fail
  generalize (w1.alloc (.cells #[.slice a L.length cap] 26)) = w2 at HX2 HG2 HB2 k2 ⊢
  have HKB : Hid (∀ W, Below w2.heap.size w2 W → W.cell? ⟨w1.heap.size, 0, none⟩ = some (.slice a L.length cap)) := fun W hb => (HX2.out.keep hb).1
  have HGK : Hid (∀ W, Below w2.heap.size w2 W → GridAt W (.slice a L.length cap) L) := fun W hb => HG2.out.keep hb
  have HTK : Hid (∀ W, Below w2.heap.size w2 W → TabAt W) := fun W hb => (hT.keep HB2.out).keep hb
  have HBW : Hid (∀ W, Below w2.heap.size w2 W → Below w.heap.size w W) := fun W hb => HB2.out.trans (hb.mono HB2.out.size)
  clear HX2 HB0
  refine (implPerfectOrder_any _ L _ HG2.out).mono ?_
  rintro e w3 ⟨m3, a3, c3, rfl, ho3, hb3⟩
  obtain ⟨P, hP⟩ : ∃ P, P = pfL L := ⟨_, rfl⟩
  rw [← hP] at ho3
  obtain rfl : m3 = P.length := by
    obtain ⟨a4, c4, e4⟩ := ho3.row.slice
    simp only [Value.slice.injEq] at e4
    exact e4.2.1
  have HP := Lib.hid hP
  have HR3 := Lib.hid ho3.row
  have HB3 : Hid (Below w2.heap.size w2 w3) := hb3
  have k3 := HKB.out _ hb3
  clear ho3 hb3 hP k2
  go_wp2_with fail
  refine (implChordlessLoop_any _ L _ (HGK.out _ HB3.out) (HTK.out _ HB3.out)).mono ?_
  rintro e w4 ⟨m4, a4, c4, rfl, ho4, hb4⟩
  obtain ⟨X, hX⟩ : ∃ X, X = clL L := ⟨_, rfl⟩
  rw [← hX] at ho4
  obtain rfl : m4 = X.length := by
    obtain ⟨a5, c5, e5⟩ := ho4.row.slice
    simp only [Value.slice.injEq] at e5
    exact e5.2.1
  have HX := Lib.hid hX
  have HR4 := Lib.hid ho4.row
  have HP4 := Lib.hid (HR3.out.keep hb4)
  have HB4 : Hid (Below w2.heap.size w2 w4) := HB3.out.trans (hb4.mono HB3.out.size)
  have k4 := HKB.out _ HB4.out
  clear ho4 hb4 hX k3 HR3
  go_wp2_with fail
  refine (w5OrderIs_any _ _ L P _ (HGK.out _ HB4.out) HP4.out).mono ?_
  rintro e w5 ⟨rfl, hb5⟩
  rw [decide_eq_true HP.out]
  have HR5 := Lib.hid (HR4.out.keep hb5)
  have HP5 := Lib.hid (HP4.out.keep hb5)
  have HB5 : Hid (Below w2.heap.size w2 w5) := HB4.out.trans (hb5.mono HB4.out.size)
  have k5 := HKB.out _ HB5.out
  clear hb5 k4 HR4 HP4
  go_wp2_with fail
  refine (implChordalIn_any _ L _ (HGK.out _ HB5.out)).mono ?_
  rintro e w6 ⟨rfl, hb6⟩
  have HR6 := Lib.hid (HR5.out.keep hb6)
  have HP6 := Lib.hid (HP5.out.keep hb6)
  have HB6 : Hid (Below w2.heap.size w2 w6) := HB5.out.trans (hb6.mono HB5.out.size)
  have k6 := HKB.out _ HB6.out
  have hne : (poV L != poV L) = false := by simp
  clear hb6 k5 HR5 HP5
  go_wp2_with fail
  refine (specGraphOk_any _ L _ (HGK.out _ HB6.out)).mono ?_
  rintro e w7 ⟨rfl, hb7⟩
  have HR7 := Lib.hid (HR6.out.keep hb7)
  have HP7 := Lib.hid (HP6.out.keep hb7)
  have HB7 : Hid (Below w2.heap.size w2 w7) := HB6.out.trans (hb7.mono HB6.out.size)
  have k7 := HKB.out _ HB7.out
  clear hb7 k6 HR6 HP6 hne
  by_cases hG : GraphP L
  · rw [decide_eq_true hG]
    rcases chordal_facts hG with ⟨f1, f2, f3, f4⟩ | ⟨f1, f2, f3⟩
    · rw [f1, f2]
      rw [← HP.out] at f3
      have F4 := Lib.hid f4
      have F3 := Lib.hid f3
      clear f1 f2 f3 f4
      go_wp2_with fail
      refine (specPerfectIn_any _ _ L P _ (HGK.out _ HB7.out) HP7.out).mono ?_
      rintro e w8 ⟨rfl, hb8⟩
      rw [F3.out]
      have HP8 := Lib.hid (HP7.out.keep hb8)
      have HB8 : Hid (Below w2.heap.size w2 w8) := HB7.out.trans (hb8.mono HB7.out.size)
      have k8 := HKB.out _ HB8.out
      clear hb8 k7 HP7
      go_wp2_with fail
      refine (implPerfectIn_any _ _ L P _ (HGK.out _ HB8.out) HP8.out).mono ?_
      rintro e w9 ⟨rfl, hb9⟩
      rw [F3.out]
      have HB9 : Hid (Below w2.heap.size w2 w9) := HB8.out.trans (hb9.mono HB8.out.size)
      have k9 := HKB.out _ HB9.out
      clear hb9 k8 HP8
      go_wp2_with fail
      refine (implSimplicialIn_any _ L _ (HGK.out _ HB9.out)).mono ?_
      rintro e wA ⟨mA, aA, cA, rfl, hoA, hbA⟩
      obtain rfl : mA = (simpL L).length := by
        obtain ⟨a5, c5, e5⟩ := hoA.row.slice
        simp only [Value.slice.injEq] at e5
        exact e5.2.1
      have HBA : Hid (Below w2.heap.size w2 wA) := HB9.out.trans (hbA.mono HB9.out.size)
      have hposI : (0 : Int) < ((simpL L).length : Int) := by have := F4.out; omega
      have HDT : Hid (decide (0 < (simpL L).length) = true) := decide_eq_true F4.out
      clear hoA hbA k9
      go_wp2
      go_ret
      exact ⟨ret_bool HDT.out, HBW.out _ HBA.out⟩
    · rw [f1, f2]
      rw [← HX.out] at f3
      have F3 := Lib.hid f3
      clear f1 f2 f3
      go_wp2_with fail
      refine (implChordlessOk_any _ _ L X _ (HGK.out _ HB7.out) HR7.out).mono ?_
      rintro e w8 ⟨rfl, hb8⟩
      rw [F3.out]
      have HR8 := Lib.hid (HR7.out.keep hb8)
      have HB8 : Hid (Below w2.heap.size w2 w8) := HB7.out.trans (hb8.mono HB7.out.size)
      have k8 := HKB.out _ HB8.out
      clear hb8 k7 HR7
      go_wp2_with fail
      refine (specChordlessOk_any _ _ L X _ (HGK.out _ HB8.out) HR8.out).mono ?_
      rintro e w9 ⟨rfl, hb9⟩
      rw [F3.out]
      have HB9 : Hid (Below w2.heap.size w2 w9) := HB8.out.trans (hb9.mono HB8.out.size)
      clear hb9 k8 HR8
      go_wp2
      go_ret
      exact ⟨rfl, HBW.out _ HB9.out⟩
  · obtain ⟨f1, f2⟩ := chordal_off hG
    rw [decide_eq_false hG, f1, f2]
    clear f1 f2 k7
    go_wp2
    go_ret
    exact ⟨rfl, HBW.out _ HB7.out⟩

end Go.Proofs.YtohjfcfcopbmoaaGreatDoor
