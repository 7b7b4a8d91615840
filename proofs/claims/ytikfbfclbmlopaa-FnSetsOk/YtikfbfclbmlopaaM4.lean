/- Walks: these vertices of a graph, in this order: the model's and the program's. -/
import Derived.Test.YtikfbfclbmlopaaM3
import Derived.Test.YtikfbfclbmlopaaLater
namespace Go.Proofs.Ytikfbfclbmlopaa
open Go.RowKit

set_option maxHeartbeats 1600000 in
theorem l2Of_any (v v1 : Value) (L : List (List Int)) (xs : List Int) (R : Nat → Nat → Bool) (w : World) (h : GridAt w v L) (h1 : RowAt w v1 xs) (h0 : 0 < xs.length) (hl16 : xs.length ≤ 16)
    (hx : ∀ i, i < xs.length → 0 ≤ nth xs i ∧ nth xs i < (L.length : Int))
    (hR : ∀ k i, k < i → i < xs.length → R k i = hasB (nthR L (nth xs i).toNat) (nth xs k)) (hsym : ∀ i j, R i j = R j i) (hloop : ∀ i, R i i = false) (hrange : ∀ i j, R i j = true → i < xs.length ∧ j < xs.length) :
    Calls Try.prog 110 #[.agg #[v], v1] w (GaveGraph w (adjL xs.length R)) := by
  obtain ⟨a0, c0, rfl⟩ := h.slice
  obtain ⟨b, o, c, rfl, l1, l2, hc⟩ := h1.pos h0
  have hlm := h1.len
  unfold maxLen at hlm
  have b1 : BoxAt ((w.alloc (.cells #[.slice a0 L.length c0] 26)).alloc (.cells #[.slice none 0 0] 26)) w.heap.size (.slice a0 L.length c0) := ⟨by go_simp, by go_simp⟩
  have b2 : BoxAt ((w.alloc (.cells #[.slice a0 L.length c0] 26)).alloc (.cells #[.slice none 0 0] 26)) (w.heap.size + 1) (.slice none 0 0) := ⟨by go_simp, by go_simp⟩
  have ha : Below w.heap.size w ((w.alloc (.cells #[.slice a0 L.length c0] 26)).alloc (.cells #[.slice none 0 0] 26)) := ((Below.refl _ _).alloc (Nat.le_refl _) _).alloc (by simp) _
  have hsz : ((w.alloc (.cells #[.slice a0 L.length c0] 26)).alloc (.cells #[.slice none 0 0] 26)).heap.size = w.heap.size + 1 + 1 := by rw [size_alloc1, size_alloc1]
  have HGK : Hid (∀ w', Below w.heap.size w w' → GridAt w' (.slice a0 L.length c0) L) := fun w' hb => h.keep hb
  have HCK : Hid (∀ w', Below w.heap.size w w' → ∀ i, i < xs.length → w'.cell? ⟨b, o + i, none⟩ = some (.int .i64 (nth xs i))) := fun w' hb i hi => cell_keep hb (hc i hi)
  have B1 := Lib.hid b1
  have B2 := Lib.hid b2
  have HA := Lib.hid ha
  have HSZ := Lib.hid hsz
  have HX := Lib.hid hx
  have HR := Lib.hid hR
  have HSY := Lib.hid hsym
  have HLO := Lib.hid hloop
  have HRA := Lib.hid hrange
  clear b1 b2 ha hsz hR hsym hloop hrange h h1 hc hx
  go_enter Try.func110, Try.ntmps110
  go_wp2_with fail
  refine (l1Empty_any xs.length _ (by omega)).mono ?_
  rintro e w2 ⟨n2, a2, c2, rfl, ho2, hb2⟩
  obtain rfl : n2 = xs.length := by
    obtain ⟨a3, c3, e3⟩ := ho2.grid.slice
    simp only [Value.slice.injEq] at e3
    simpa using e3.2.1
  rw [adjL_empty] at ho2
  have hz2 : w.heap.size + 1 + 1 ≤ w2.heap.size := by have := hb2.size; rw [HSZ.out] at this; exact this
  have hbw : Below w2.heap.size w2 (w2.alloc (.cells #[.slice a2 xs.length c2] 26)) := (Below.refl _ _).alloc (Nat.le_refl _) _
  have HW0 : Hid (Work w w.heap.size (.slice a0 L.length c0) w2.heap.size xs.length (w.heap.size + 1 + 1) (stepA R 0 0) (w2.alloc (.cells #[.slice a2 xs.length c2] 26))) := by
    refine ⟨(B1.out.keep hb2).keep hbw, (B2.out.keep hb2).keep hbw, ⟨a2, c2, BoxT.new _ _ _, ?_⟩, ?_⟩
    · rw [adjL_congr (fun i _ j _ => stepA_zero R i j)]
      exact (ho2.mono (by rw [HSZ.out]; exact Nat.le_refl _)).keep hbw
    · exact (HA.out.trans (hb2.mono (by rw [HSZ.out]; omega))).alloc (by omega) _
  clear ho2 hb2 hbw B1 B2 HA
  go_wp2_with fail
  go_loopw [6] (fun i wr => ∃ k : Nat, k ≤ xs.length ∧ i = .int .i64 k ∧ Work w w.heap.size (.slice a0 L.length c0) w2.heap.size xs.length (w.heap.size + 1 + 1) (stepA R k 0) wr) (fun i _ => xs.length - (intOf i).toNat)
  case atStart => exact ⟨0, Nat.zero_le _, rfl, HW0.out⟩
  case round =>
    obtain ⟨k, hk, rfl, hw⟩ := hrel
    have HW3 := Lib.hid hw
    clear hw
    by_cases hlt : k < xs.length
    · go_wp2_with fail
      go_loopw [7] (fun i wr => ∃ q : Nat, q ≤ k ∧ i = .int .i64 q ∧ Work w w.heap.size (.slice a0 L.length c0) w2.heap.size xs.length (w.heap.size + 1 + 1) (stepA R k q) wr) (fun i _ => k - (intOf i).toNat)
      case atStart => exact ⟨0, Nat.zero_le _, rfl, HW3.out⟩
      case round =>
        rename World => w4
        obtain ⟨q, hq, rfl, hw⟩ := hrel
        have HW4 := Lib.hid hw
        have kb := hw.arg.1
        have kk := HCK.out _ hw.bel k hlt
        by_cases hql : q < k
        · have kq := HCK.out _ hw.bel q (by omega)
          have hql2 : (q : Int) < (xs.length : Int) := by omega
          have hxk := HX.out k hlt
          have HRQ := Lib.hid (HR.out q k hql hlt)
          obtain ⟨hb, hhb⟩ : ∃ hb, hb = hasB (nthR L (nth xs k).toNat) (nth xs q) := ⟨_, rfl⟩
          have HHB := Lib.hid hhb
          have hcall : Hid (∀ x : Later w4, Calls Try.prog 96 #[.agg #[.slice a0 L.length c0], .int .i64 (nth xs k), .int .i64 (nth xs q)] x.at fun e w5 => e = .returned (.bool hb) ∧ ∃ y : Later w4, w5 = y.at) :=
            fun x => Calls.later ((l1Edge_any _ L (nth xs k) (nth xs q) _ (HGK.out _ (HW4.out.bel.trans (x.bel.mono HW4.out.bel.size))) hxk.1 hxk.2).mono fun _ _ ⟨h1, h2⟩ => ⟨by rw [h1, HHB.out], h2⟩)
          have kl := fun x : Later w4 => x.cell kb
          have kl1 := fun x : Later w4 => x.cell kk
          have kl2 := fun x : Later w4 => x.cell kq
          clear hw hhb kb kk kq
          cases hb with
          | false =>
            have r1 : R q k = false := by rw [HRQ.out, ← HHB.out]
            have r2 : R k q = false := by rw [HSY.out]; exact r1
            have HS : Hid (∀ i j, stepA R k (q + 1) i j = stepA R k q i j) := fun i j => stepA_skip r1 r2 i j
            clear r1 r2 hxk
            go_wp2_with fail
            refine wp_region_later (by kernel_rfl) (by kernel_rfl) ?_
            repeat (go_big_quiet_step ((go_at_call 96; exact hcall.out _)))
            refine wpQuiet_nil ?_
            rintro _ ⟨x, rfl⟩
            clear kl kl1 kl2
            go_wp2
            go_roundw
            case rel => exact ⟨q + 1, by omega, by go_num, (HW4.out.keep x.bel).congr (fun i j => (HS.out i j).symm)⟩
            case measure => simp [intOf]; omega
          | true =>
            have r1 : R q k = true := by rw [HRQ.out, ← HHB.out]
            have r2 : R k q = true := by rw [HSY.out]; exact r1
            have HS : Hid (∀ i j, stepA R k (q + 1) i j = linkA (stepA R k q) q k i j) := fun i j => stepA_link r1 r2 i j
            clear r1 r2 hxk
            go_wp2_with fail
            refine wp_region_later (by kernel_rfl) (by kernel_rfl) ?_
            repeat (go_big_quiet_step ((go_at_call 96; exact hcall.out _)))
            refine wpQuiet_nil ?_
            rintro _ ⟨x, rfl⟩
            have hw5 := HW4.out.keep x.bel
            generalize x.at = w5 at hw5 ⊢
            have HW5 := Lib.hid hw5
            clear kl kl1 kl2 hcall hw5
            obtain ⟨ag, cg, hbt, hog⟩ := HW5.out.out
            obtain ⟨g, cap, eg, hBg, hgs, _⟩ := hog.place (by rw [adjL_len]; omega)
            simp only [adjL_len, Value.slice.injEq, true_and] at eg
            obtain ⟨rfl, rfl⟩ := eg
            have hgne : w2.heap.size ≠ g := by
              obtain ⟨cur, hcur⟩ := hog.blkT
              intro e
              rw [← e] at hcur
              have hbb : w5.heap[w2.heap.size]? = _ := hbt
              rw [hcur] at hbb
              simp at hbb
            have kg := hbt.box.1
            have HBT := Lib.hid hbt
            have HOG := Lib.hid hog
            clear hbt hog
            go_wp2_with fail
            refine (l1Link_adj q k g cg (w.heap.size + 1 + 1) xs.length _ _ HOG.out (by have := HBT.out.lt; omega) (by omega) hlt hl16 (by omega)).mono ?_
            rintro e w6 ⟨rfl, ho6, hb6, ht6⟩
            have bt6 : BoxT 26 w6 w2.heap.size (.slice (some ⟨g, 0, none⟩) xs.length cg) := by
              unfold BoxT
              rw [ht6 _ HBT.out.lt hgne]
              exact HBT.out
            have kb6 := bt6.box.1
            have kf6 := bt6.box.2
            have HW6 : Hid (Work w w.heap.size (.slice a0 L.length c0) w2.heap.size xs.length (w.heap.size + 1 + 1) (stepA R k (q + 1)) (w6.setCell ⟨w2.heap.size, 0, none⟩ (.slice (some ⟨g, 0, none⟩) xs.length cg))) := by
              refine ⟨(HW5.out.arg.keepB hb6 (by omega)).setOther (by simp; omega) _, (HW5.out.res.keepB hb6 (by omega)).setOther (by simp; omega) _, ⟨_, cg, bt6.set _, ?_⟩, (HW5.out.bel.trans (hb6.mono (by omega))).setCell (by simp; omega) _⟩
              rw [adjL_congr (fun i _ j _ => HS.out i j)]
              exact ho6.setType bt6 (by decide) (by decide) 0 _
            clear bt6 ho6 hb6 ht6 kg
            go_wp2
            go_roundw
            case rel => exact ⟨q + 1, by omega, by go_num, HW6.out⟩
            case measure => simp [intOf]; omega
        · obtain rfl : q = k := by omega
          clear kb hw kk
          go_wp2
          go_roundw
          case rel => exact ⟨q + 1, by omega, by go_num, HW4.out.congr (fun i j => stepA_next HLO.out q i j)⟩
          case measure => simp [intOf]; omega
    · obtain rfl : k = xs.length := by omega
      obtain ⟨ag, cg, hbt, hog⟩ := HW3.out.out
      have kg := hbt.box.1
      have kr := HW3.out.res.1
      have kf := HW3.out.res.2
      have HBT := Lib.hid hbt
      have HOG := Lib.hid hog
      clear hbt hog
      go_wp2
      have q0 : (wr.setCell ⟨w.heap.size + 1, 0, none⟩ (.slice ag xs.length cg)).cell? ⟨w.heap.size + 1, 0, none⟩ = some (.slice ag xs.length cg) := cell_set_same _ kr
      refine bodyPost_ret (v := .agg #[.slice ag xs.length cg]) (by simp [results, Try.results110, go_sem, q0]) rfl ⟨_, ag, cg, rfl, ?_, HW3.out.bel.setCell (by simp) _⟩
      rw [← adjL_congr (fun i _ j _ => stepA_all HRA.out i j)]
      exact (HOG.out.setBelow (by simp) _).mono (by omega)

end Go.Proofs.Ytikfbfclbmlopaa
