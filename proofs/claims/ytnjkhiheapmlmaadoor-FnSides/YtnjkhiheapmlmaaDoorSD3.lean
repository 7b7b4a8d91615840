/- The walk of FnSides. -/
import Derived.Test.YtnjkhiheapmlmaaDoorQSD1
import Derived.Test.YtnjkhiheapmlmaaDoorQLL3
import Derived.Test.YtnjkhiheapmlmaaDoorQV1
import Derived.Test.YtnjkhiheapmlmaaDoorQK2
import Derived.Test.YtnjkhiheapmlmaaDoorQFrameD
import Derived.Test.YtnjkhiheapmlmaaDoorQD5
import Derived.BigQuiet

namespace Go.Proofs.YtnjkhiheapmlmaaDoor
open Go.RowKit

set_option maxHeartbeats 8000000 in
set_option maxRecDepth 100000 in
theorem lawSides (a0 : Option Addr) (n0 c0 : Nat) (w : World) (hb : n0 ≤ 4096 → BytesAt w w.heap.size (.slice a0 n0 c0) n0) (hT : TabAt w) :
    Calls Tryd.prog 3 #[.slice a0 n0 c0] w fun e w' => e = .returned (.bool true) ∧ Below w.heap.size w w' := by
  have HBY := Lib.hid hb
  clear hb
  go_enter Tryd.func3, Tryd.ntmps3
  go_wp2_with fail
  refine (big_any _ _ _ _).mono ?_
  rintro e w' ⟨rfl, rfl⟩
  by_cases hbig : (4096 : Int) < (n0 : Int)
  · rw [decide_eq_true hbig]
    go_wp2
    go_ret
    exact ⟨rfl, Below.refl _ _⟩
  rw [decide_eq_false hbig]
  go_wp2_with fail
  refine (drawSidesOf_any n0 _ _ (HBY.out (by omega))).mono ?_
  rintro e w1 ⟨L, m, a, cap, rfl, ho1, hb1⟩
  obtain rfl : m = L.length := by
    obtain ⟨a3, c3, e3⟩ := ho1.grid.slice
    simp only [Value.slice.injEq] at e3
    exact e3.2.1
  have hl := ho1.grid.len
  unfold maxLen at hl
  have hst : Below w1.heap.size w1 (w1.alloc (.cells #[.slice a L.length cap] 26)) := (Below.refl _ _).alloc (Nat.le_refl _) _
  have HG1 := Lib.hid (ho1.grid.keep hst)
  have HB1 := Lib.hid (hb1.alloc hb1.size (.cells #[.slice a L.length cap] 26))
  clear ho1 hb1 hst HBY hbig
  go_wp2_with fail
  refine (implSidesOf_any _ L _ HG1.out (hT.keep HB1.out)).mono ?_
  rintro e w2 ⟨n2, a2, c2, rfl, ho2, hb2⟩
  have HN2 : Hid (n2 = (soL L).length) := by
    obtain ⟨a3, c3, e3⟩ := ho2.row.slice
    simp only [Value.slice.injEq] at e3
    exact e3.2.1
  have kb2 : w2.cell? ⟨w1.heap.size, 0, none⟩ = some (.slice a L.length cap) := by rw [hb2.cell (by simp)]; go_simp
  have HG2 : Hid (∀ w', Below w2.heap.size w2 w' → GridAt w' (.slice a L.length cap) L) := fun w' h => (HG1.out.keep hb2).keep h
  have HS2 : Hid (∀ w', Below w2.heap.size w2 w' → OwnRow 2 w' (w1.alloc (.cells #[.slice a L.length cap] 26)).heap.size (.slice a2 n2 c2) (soL L)) := fun w' h => ho2.keep h
  have HB2 : Hid (Below w.heap.size w w2) := HB1.out.trans (hb2.mono HB1.out.size)
  have KB : Hid (∀ w', Below w2.heap.size w2 w' → w'.cell? ⟨w1.heap.size, 0, none⟩ = some (.slice a L.length cap)) := fun w' h => cell_keep h kb2
  have HT2 : Hid (∀ w', Below w2.heap.size w2 w' → TabAt w') := fun w' h => (hT.keep HB2.out).keep h
  clear ho2 hb2 HG1 HB1 hT
  go_wp2_with fail
  refine (implOddLoop_any _ L _ (HG2.out _ (Below.refl _ _)) (HT2.out _ (Below.refl _ _))).mono ?_
  rintro e w3 ⟨n3, a3, c3, rfl, ho3, hb3⟩
  have HN3 : Hid (n3 = (olL L).length) := by
    obtain ⟨a3', c3', e3⟩ := ho3.row.slice
    simp only [Value.slice.injEq] at e3
    exact e3.2.1
  have HO3 : Hid (∀ w', Below w3.heap.size w3 w' → RowAt w' (.slice a3 n3 c3) (olL L)) := fun w' h => (ho3.keep h).row
  have HB3 := Lib.hid hb3
  have kb3 := KB.out _ hb3
  clear ho3 hb3 kb2
  go_wp2_with fail
  refine (specGraphOk_any _ L _ (HG2.out _ HB3.out)).mono ?_
  rintro e w4 ⟨rfl, hb4⟩
  have HB34 := Lib.hid hb4
  have HB4 : Hid (Below w2.heap.size w2 w4) := HB3.out.trans (hb4.mono HB3.out.size)
  have kb4 := KB.out _ HB4.out
  clear hb4 kb3
  have HF4 : Hid (Below w.heap.size w w4) := HB2.out.trans (HB4.out.mono HB2.out.size)
  by_cases hG : GraphP L
  · rw [decide_eq_true hG]
    have hz := hG.1
    have HG := Lib.hid hG
    clear hG
    rcases Classical.em (ApartP L) with hA | hA
    · have HSO : Hid (soL L = sideL L) := soL_yes (soB_yes HG.out hA)
      have HOL : Hid (olL L = []) := ol_none HG.out hA
      rw [soB_yes HG.out hA]
      obtain rfl : n3 = 0 := by rw [HN3.out, HOL.out]; rfl
      obtain rfl : n2 = L.length := by rw [HN2.out, HSO.out, sideL_len]
      have HA := Lib.hid hA
      have qL : ((L.length : Int) != (L.length : Int)) = false := by simp
      clear hA
      go_wp2_with fail
      refine (specOddLoop_any _ L _ (HG2.out _ HB4.out)).mono ?_
      rintro e w5 ⟨n5, a5, c5, rfl, ho5, hb5⟩
      have HO5 := Lib.hid ho5.row
      have HB45 := Lib.hid hb5
      have HB5 : Hid (Below w2.heap.size w2 w5) := HB4.out.trans (hb5.mono HB4.out.size)
      clear ho5 hb5 kb4
      go_wp2_with fail
      refine (likeInts_any _ _ _ _ _ (HO3.out _ (HB34.out.trans (HB45.out.mono HB34.out.size))) HO5.out).mono ?_
      rintro e w6 ⟨rfl, hd6⟩
      rw [decide_eq_true rfl]
      have HB6 : Hid (Below w2.heap.size w2 w6) := HB5.out.trans (hd6.below _)
      have kb6 := KB.out _ HB6.out
      clear hd6 HO5 HB45
      go_wp2_with fail
      refine (specEdgesOf_any _ L _ (HG2.out _ HB6.out)).mono ?_
      rintro e w9 ⟨n9, a9, c9, rfl, ho9, hb9⟩
      have HEE : Hid (edgesL L = edgesTo L L.length) := by show _ = _; unfold edgesL; rw [if_pos HG.out]
      rw [HEE.out] at ho9
      obtain ⟨E, hE⟩ : ∃ E, E = edgesTo L L.length := ⟨_, rfl⟩
      have HEF : Hid (∀ i, i < E.length → ∃ u v : Nat, nthR E i = [(u : Int), (v : Int)] ∧ u < L.length ∧ v < L.length ∧ sideV L u ≠ sideV L v) := fun i hi => by
        rw [hE] at hi ⊢
        obtain ⟨u, v, e, hu, hv, ha⟩ := edge_at HG.out hi
        exact ⟨u, v, e, hu, hv, HA.out u v hu hv ha⟩
      rw [← hE] at ho9
      obtain rfl : n9 = E.length := by
        obtain ⟨a3, c3, e3⟩ := ho9.grid.slice
        simp only [Value.slice.injEq] at e3
        exact e3.2.1
      have hle := ho9.grid.len
      unfold maxLen at hle
      have HE9 := Lib.hid ho9.grid
      have HB9 : Hid (Below w2.heap.size w2 w9) := HB6.out.trans (hb9.mono HB6.out.size)
      have HFIN : Hid (Below w.heap.size w w9) := HB2.out.trans (HB9.out.mono HB2.out.size)
      have HS9 : Hid (OwnRow 2 w9 (w1.alloc (.cells #[.slice a L.length cap] 26)).heap.size (.slice a2 L.length c2) (sideL L)) := by
        have := HS2.out _ HB9.out
        rw [HSO.out] at this
        exact this
      clear ho9 hb9 hE kb6 HEE
      obtain ⟨gs, cs, es, hgsB, hgsl, hcs1, hcs2⟩ := HS9.out.posB (by rw [sideL_len]; omega)
      rw [sideL_len] at es hcs1
      simp only [Value.slice.injEq, true_and] at es
      obtain ⟨rfl, rfl⟩ := es
      go_wp2_with fail
      go_loopw [8] (fun i wr => ∃ q : Nat, q ≤ E.length ∧ i = .int .i64 q ∧ Drawn w9 wr) (fun i _ => E.length - (intOf i).toNat)
      case atStart => exact ⟨0, Nat.zero_le _, rfl, Drawn.refl _⟩
      case round =>
        obtain ⟨q, hq, rfl, hd⟩ := hrel
        by_cases hql : q < E.length
        · obtain ⟨u, v, he, hu, hv, huv⟩ := HEF.out q hql
          obtain ⟨b, o, c, A, C, e2, l1, l2, hc⟩ := HE9.out.pos (by omega)
          simp only [Value.slice.injEq, true_and] at e2
          obtain ⟨rfl, rfl⟩ := e2
          have hck := (hc q hql).1
          have hrk := (hc q hql).2
          rw [he] at hck hrk
          obtain ⟨b2, o2, c2', e3, l3, k0, k1⟩ := rowAt_two hrk
          rw [e3] at hck
          have hfx := HS9.out.cells' u (by rw [sideL_len]; exact hu)
          have hfy := HS9.out.cells' v (by rw [sideL_len]; exact hv)
          rw [sideL_nth hu] at hfx
          rw [sideL_nth hv] at hfy
          replace hck := cell_drawn hd hck
          replace k0 := cell_drawn hd k0
          replace k1 := cell_drawn hd k1
          replace hfx := cell_drawn hd hfx
          replace hfy := cell_drawn hd hfy
          have HD := Lib.hid hd
          clear hd
          have qs : (sideV L u == sideV L v) = false := by rw [beq_eq_false_iff_ne]; exact huv
          clear hc hrk he e3 huv
          go_wp2
          go_quiet (fail)
          go_wp2
          go_roundw
          case rel => exact ⟨q + 1, by omega, by go_num, HD.out.more _⟩
          case measure => simp [intOf]; omega
        · obtain rfl : q = E.length := by omega
          have HD : Hid (Below w.heap.size w wr) := HFIN.out.trans (hd.below _)
          clear hd
          go_wp2
          go_ret
          exact ⟨rfl, HD.out⟩
    · have HOL := Lib.hid (ol_loop HG.out hA)
      have hn3 : n3 % 2 = 1 ∧ n3 ≤ 16 := by rw [HN3.out]; exact ⟨HOL.out.1, HOL.out.2.1⟩
      obtain ⟨h3a, h3b⟩ := hn3
      rw [soB_no (fun h => hA h.2)]
      have q3 : ((n3 : Int) == 0) = false := by rw [beq_eq_false_iff_ne]; omega
      have q4 : ((n3 : Int).tmod 2 == 1) = true := by rw [beq_iff_eq, Int.tmod_eq_emod_of_nonneg (by omega)]; omega
      have q5 : ((n3 : Int) % 2 == 1) = true := by rw [beq_iff_eq]; omega
      have HLB : Hid (loopB L (olL L) = true) := HOL.out.2.2
      clear hA HOL h3a
      go_wp2_with fail
      refine (specOddLoop_any _ L _ (HG2.out _ HB4.out)).mono ?_
      rintro e w5 ⟨n5, a5, c5, rfl, ho5, hb5⟩
      have HO5 := Lib.hid ho5.row
      have HB45 := Lib.hid hb5
      have HB5 : Hid (Below w2.heap.size w2 w5) := HB4.out.trans (hb5.mono HB4.out.size)
      clear ho5 hb5 kb4
      go_wp2_with fail
      refine (likeInts_any _ _ _ _ _ (HO3.out _ (HB34.out.trans (HB45.out.mono HB34.out.size))) HO5.out).mono ?_
      rintro e w6 ⟨rfl, hd6⟩
      rw [decide_eq_true rfl]
      have HB36 : Hid (Below w3.heap.size w3 w6) := (HB34.out.trans (HB45.out.mono HB34.out.size)).trans (hd6.below _)
      have HB6 : Hid (Below w2.heap.size w2 w6) := HB5.out.trans (hd6.below _)
      have kb6 := KB.out _ HB6.out
      clear hd6 HO5 HB45
      go_wp2_with fail
      refine (implLoopOk_any _ _ L _ _ (HG2.out _ HB6.out) (HO3.out _ HB36.out)).mono ?_
      rintro e w7 ⟨rfl, hb7⟩
      rw [HLB.out]
      have HB37 : Hid (Below w3.heap.size w3 w7) := HB36.out.trans (hb7.mono HB36.out.size)
      have HB7 : Hid (Below w2.heap.size w2 w7) := HB6.out.trans (hb7.mono HB6.out.size)
      have kb7 := KB.out _ HB7.out
      clear hb7 kb6
      go_wp2_with fail
      refine (specLoopOk_any _ _ L _ _ (HG2.out _ HB7.out) (HO3.out _ HB37.out)).mono ?_
      rintro e w8 ⟨rfl, hb8⟩
      rw [HLB.out]
      have HFIN : Hid (Below w.heap.size w w8) := HB2.out.trans ((HB7.out.trans (hb8.mono HB7.out.size)).mono HB2.out.size)
      clear hb8 kb7
      go_wp2
      go_ret
      exact ⟨rfl, HFIN.out⟩
  · rw [decide_eq_false hG]
    obtain rfl : n3 = 0 := by rw [HN3.out, ol_bad hG]; rfl
    rw [soB_no (fun h => hG h.1)]
    clear hG
    go_wp2
    go_ret
    exact ⟨rfl, HF4.out⟩

end Go.Proofs.YtnjkhiheapmlmaaDoor
