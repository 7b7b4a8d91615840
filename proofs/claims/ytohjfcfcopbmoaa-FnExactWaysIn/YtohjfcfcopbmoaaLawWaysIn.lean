/- The walk of the law FnExactWaysIn, written by program (tools/gen/decplain.py) out of the contracts. -/
import Derived.Test.YtohjfcfcopbmoaaDE6
import Derived.Deep.RegionHeld3

namespace Go.Proofs.Ytohjfcfcopbmoaa
open Go.RowKit

set_option maxHeartbeats 4000000 in
set_option maxRecDepth 100000 in
theorem lawWaysIn (v u : Value) (B K : List (List Int)) (w : World) (h : GridAt w v B) (h' : GridAt w u K) :
    Calls Try.prog 5 #[.agg #[v, u]] w fun e w' => e = .returned (.bool true) ∧ Below w.heap.size w w' := by
  obtain ⟨a, c, rfl⟩ := h.slice
  obtain ⟨a', c', rfl⟩ := h'.slice
  have HG : Hid (∀ W, Below w.heap.size w W → GridAt W (.slice a B.length c) B) := fun W hb => h.keep hb
  have HK : Hid (∀ W, Below w.heap.size w W → GridAt W (.slice a' K.length c') K) := fun W hb => h'.keep hb
  have HA : Hid (Below w.heap.size w (w.alloc (.cells #[.slice a B.length c, .slice a' K.length c'] 24))) := (Below.refl _ _).alloc (Nat.le_refl _) _
  have X0 : Hid (Box2 24 (w.alloc (.cells #[.slice a B.length c, .slice a' K.length c'] 24)) w.heap.size (.slice a B.length c) (.slice a' K.length c')) := Box2.new _ _ _ _
  clear h h'
  obtain ⟨E, hE⟩ : ∃ E, E = waysV B K := ⟨_, rfl⟩
  have HE := Lib.hid hE
  clear hE
  go_enter Try.func5, Try.ntmps5
  go_wp2_with fail
  refine (szDecomp_any _ _ B K _ _ (HG.out _ HA.out) (HK.out _ HA.out) (by omega) (by omega)).mono ?_
  rintro e w1 ⟨rfl, hb1⟩
  have HB1 : Hid (Below w.heap.size w w1) := HA.out.trans (hb1.mono HA.out.size)
  have X1 := Lib.hid (X0.out.keep hb1)
  clear hb1 X0 HA
  by_cases hs : szTwo B K 1048576 < 0
  · go_wp2
    go_ret
    exact ⟨rfl, HB1.out⟩
  obtain ⟨hsB, hsK, hle⟩ := szTwo_small (by omega) hs
  have k0 := X1.out.c0
  have k1 := X1.out.c1
  go_wp2_with fail
  refine (toDecomp_any _ _ B K _ (HG.out _ HB1.out) (HK.out _ HB1.out) hsB hsK).mono ?_
  rintro e w2 ⟨U2, n2, a2, c2, m2, d2, f2, rfl, ho2, hp2, hu2, hb2⟩
  have HB2 : Hid (Below w.heap.size w w2) := HB1.out.trans (hb2.mono HB1.out.size)
  have X2 := Lib.hid (X1.out.keep hb2)
  have O2 := Lib.hid ho2.read
  have P2 := Lib.hid hp2.grid
  clear hb2 X1 HB1 ho2 hp2 hu2 k0 k1
  go_wp2_with fail
  refine (specWaysIn_any _ _ B K _ O2.out P2.out).mono ?_
  rintro e w3 ⟨rfl, hb3⟩
  rw [← HE.out]
  have HB3 : Hid (Below w.heap.size w w3) := HB2.out.trans (hb3.mono HB2.out.size)
  have X3 := Lib.hid (X2.out.keep hb3)
  clear hb3 X2 HB2 O2 P2
  have k0 := X3.out.c0
  have k1 := X3.out.c1
  go_wp2_with fail
  refine (toDecomp_any _ _ B K _ (HG.out _ HB3.out) (HK.out _ HB3.out) hsB hsK).mono ?_
  rintro e w4 ⟨U4, n4, a4, c4, m4, d4, f4, rfl, ho4, hp4, hu4, hb4⟩
  have HB4 : Hid (Below w.heap.size w w4) := HB3.out.trans (hb4.mono HB3.out.size)
  have X4 := Lib.hid (X3.out.keep hb4)
  have O4 := Lib.hid ho4.read
  have P4 := Lib.hid hp4.grid
  clear hb4 X3 HB3 ho4 hp4 hu4 k0 k1
  have ha5 : Below w4.heap.size w4 (w4.alloc (.cells #[.slice a4 n4 c4, .slice d4 m4 f4] 27)) := (Below.refl _ _).alloc (Nat.le_refl _) _
  have HB5 : Hid (Below w.heap.size w (w4.alloc (.cells #[.slice a4 n4 c4, .slice d4 m4 f4] 27))) := HB4.out.trans (ha5.mono HB4.out.size)
  have X5 := Lib.hid (X4.out.keep ha5)
  have Y5 : Hid (Box2 27 (w4.alloc (.cells #[.slice a4 n4 c4, .slice d4 m4 f4] 27)) w4.heap.size (.slice a4 n4 c4) (.slice d4 m4 f4)) := Box2.new _ _ _ _
  have O5 := Lib.hid (O4.out.keep ha5)
  have P5 := Lib.hid (P4.out.keep ha5)
  clear ha5 X4 O4 P4 HB4
  go_wp2_with fail
  refine (implWaysIn_any _ _ B K _ O5.out P5.out).mono ?_
  rintro e w6 ⟨rfl, hb6⟩
  rw [← HE.out]
  have HB6 : Hid (Below w.heap.size w w6) := HB5.out.trans (hb6.mono HB5.out.size)
  have X6 := Lib.hid (X5.out.keep hb6)
  have Y6 := Lib.hid (Y5.out.keep hb6)
  have O6 := Lib.hid (O5.out.keep hb6)
  have P6 := Lib.hid (P5.out.keep hb6)
  clear hb6 X5 Y5 O5 P5 HB5
  have hne : (E != E) = false := by simp
  have k0 := X6.out.c0
  have k1 := X6.out.c1
  have y0 := Y6.out.c0
  have y1 := Y6.out.c1
  go_wp2
  go_region_held3 (fun wx => wx.cell? ⟨w.heap.size, 0, none⟩ = some (.slice a B.length c) ∧ wx.cell? ⟨w.heap.size, 1, none⟩ = some (.slice a' K.length c') ∧ wx.cell? ⟨w4.heap.size, 0, none⟩ = some (.slice a4 n4 c4) ∧ wx.cell? ⟨w4.heap.size, 1, none⟩ = some (.slice d4 m4 f4)) (first | exact ⟨k0, k1, y0, y1⟩ | exact ⟨X7.out.c0, X7.out.c1, Y7.out.c0, Y7.out.c1⟩ | exact ⟨X8.out.c0, X8.out.c1, Y8.out.c0, Y8.out.c1⟩)
    (first
      | (go_at_call 9; refine (toDecomp_any _ _ B K _ (HG.out _ HB6.out.drew) (HK.out _ HB6.out.drew) hsB hsK).mono ?_; rintro e w7 ⟨U7, n7, a7, c7, m7, d7, f7, rfl, ho7, hp7, hu7, hb7⟩; have HB7 : Hid (Below w.heap.size w w7) := HB6.out.drew.trans (hb7.mono HB6.out.size); have X7 := Lib.hid ((X6.out.keep (Below.refl _ _).drew).keep hb7); have Y7 := Lib.hid ((Y6.out.keep (Below.refl _ _).drew).keep hb7); have O7 := Lib.hid ((O6.out.keep (Below.refl _ _).drew).keep hb7); have P7 := Lib.hid ((P6.out.keep (Below.refl _ _).drew).keep hb7); have Q7 := Lib.hid ho7.read; have R7 := Lib.hid hp7.grid; clear hb7 ho7 hp7 hu7)
      | (go_at_call 11; refine (eqDecomp_any _ _ _ _ B K B K _ O7.out P7.out Q7.out R7.out).mono ?_; rintro e w8 ⟨rfl, hb8⟩; have HB8 : Hid (Below w.heap.size w w8) := HB7.out.trans (hb8.mono HB7.out.size); have X8 := Lib.hid (X7.out.keep hb8); have Y8 := Lib.hid (Y7.out.keep hb8); clear hb8; rw [decide_eq_true ⟨rfl, rfl⟩]))
  clear k0 k1 y0 y1
  go_wp2
  go_ret
  exact ⟨rfl, HB8.out⟩

end Go.Proofs.Ytohjfcfcopbmoaa
