/- Walks: the least loop without a chord, of the model. -/
import Derived.Test.YtohjfcfcopbmoaaDoorCS3
import Derived.Test.YtohjfcfcopbmoaaDoorQEG1

namespace Go.Proofs.YtohjfcfcopbmoaaDoor
open Go.RowKit

/-- What ChordlessLoop answers. -/
noncomputable def clL (L : List (List Int)) : List Int := if GraphP L then clsL (adjB L) else []
noncomputable def clB (L : List (List Int)) : Bool := decide (0 < (clL L).length)

theorem rows_mem {L : List (List Int)} (hG : GraphP L) : ∀ a, a < 16 → ∀ z, z ∈ nthR L a ↔ ∃ v : Nat, v < 16 ∧ adjB L a v = true ∧ z = (v : Int) := fun a _ z => by
  have hz := hG.1
  by_cases ha : a < L.length
  · have hset := (hG.2.1 a ha).1
    constructor
    · intro h
      obtain ⟨i, hi, e⟩ := List.getElem_of_mem h
      have hst := hset i hi
      have h1 := hst.1
      have h2 := hst.2.1
      rw [nth_eq hi, e] at h1 h2
      refine ⟨z.toNat, by omega, ?_, by omega⟩
      rw [← adjB_has hG ha (by omega), hasB_mem, show ((z.toNat : Nat) : Int) = z by omega]
      exact h
    · rintro ⟨v, hv, hA, rfl⟩
      rw [← adjB_has hG ha hv, hasB_mem] at hA
      exact hA
  · have : nthR L a = [] := by
      unfold nthR
      rw [List.getD_eq_getElem?_getD, List.getElem?_eq_none (by omega)]
      rfl
    rw [this]
    constructor
    · intro h; exact absurd h (by simp)
    · rintro ⟨v, _, hA, _⟩
      exact absurd (adjB_range hG hA).1 ha

set_option maxHeartbeats 8000000 in
set_option maxRecDepth 100000 in
theorem specChordlessLoop_any (v : Value) (L : List (List Int)) (w : World) (h : GridAt w v L) : Calls Tryd.prog 6 #[.agg #[v]] w (GaveYes w (clL L) (clB L)) := by
  obtain ⟨a0, c0, rfl⟩ := h.slice
  obtain ⟨wA, hwA⟩ : ∃ wA, wA = (w.alloc (.cells #[.slice a0 L.length c0] 29)).alloc (.cells #[] 2) := ⟨_, rfl⟩
  have HB0 : Hid (Below w.heap.size w wA) := by rw [hwA]; exact ((Below.refl _ _).alloc (Nat.le_refl _) _).alloc (by simp) _
  have kb : wA.cell? ⟨w.heap.size, 0, none⟩ = some (.slice a0 L.length c0) := by rw [hwA]; go_simp
  have HO0 : Hid (OwnRow 2 wA w.heap.size (.slice (some ⟨w.heap.size + 1, 0, none⟩) 0 0) []) := by
    have h1 := World.ownsRow_lit (w.alloc (.cells #[.slice a0 L.length c0] 29)) #[] (e := 2) (size := 1) 0 (base := w.heap.size) (by simp) (Nat.zero_le _) rfl
    rw [World.size_alloc, ← hwA] at h1
    exact OwnRow.of_ownsRow (n := 0) (xs := []) h1 (Nat.zero_le _) (fun x hx => absurd hx (by simp))
  have HKB : Hid (∀ W, Below wA.heap.size wA W → W.cell? ⟨w.heap.size, 0, none⟩ = some (.slice a0 L.length c0)) := fun W hb => cell_keep hb kb
  have HBW : Hid (∀ W, Below wA.heap.size wA W → Below w.heap.size w W) := fun W hb => HB0.out.trans (hb.mono HB0.out.size)
  have HGK : Hid (∀ W, Below w.heap.size w W → GridAt W (.slice a0 L.length c0) L) := fun W hb => h.keep hb
  have hlm := h.len
  unfold maxLen at hlm
  clear h kb
  go_enter Tryd.func6, Tryd.ntmps6
  go_wp2_with fail
  rw [← hwA]
  clear hwA
  by_cases hG : GraphP L
  · have hz := hG.1
    have HG := Lib.hid hG
    have HF : Hid (clL L = srTo (adjB L) (nthR L) L.length) := by
      show _ = _
      unfold clL
      rw [if_pos hG]
      exact (srTo_cls (adjB_sym hG) (rows_mem hG) (adjB_rel hG) hG.1.2).symm
    have HD : Hid (decide (GraphP L) = true) := decide_eq_true hG
    clear hG
    go_loopw [4, 5] (fun bv iv wr => ∃ s : Nat, s ≤ L.length ∧ iv = .int .i64 s ∧ ∃ m a c, bv = .slice a m c ∧ OwnRow 2 wr w.heap.size (.slice a m c) (srTo (adjB L) (nthR L) s) ∧ Below wA.heap.size wA wr) (fun _ iv _ => L.length - (intOf iv).toNat)
    case atStart => exact ⟨0, Nat.zero_le _, rfl, _, _, _, rfl, HO0.out, Below.refl _ _⟩
    case round =>
      clear HO0
      obtain ⟨s, hs, rfl, m, a, c, rfl, ho, hb⟩ := hrel
      have HO := Lib.hid ho
      have HB := Lib.hid hb
      have kb := HKB.out _ hb
      clear ho hb
      go_wp2_with fail
      refine (l1Size_any _ L _ (HGK.out _ (HBW.out _ HB.out))).mono ?_
      rintro e w1 ⟨rfl, hb1⟩
      have HB1 : Hid (Below wA.heap.size wA w1) := HB.out.trans (hb1.mono HB.out.size)
      have HO1 := Lib.hid (HO.out.keep hb1)
      have kb1 := HKB.out _ HB1.out
      clear hb1 HO kb
      by_cases hsl : s < L.length
      · go_wp2_with fail
        refine (specGraphOk_any _ _ _ (HGK.out _ (HBW.out _ HB1.out))).mono ?_
        rintro e w2 ⟨rfl, hb2⟩
        have HB2 : Hid (Below wA.heap.size wA w2) := HB1.out.trans (hb2.mono HB1.out.size)
        have HO2 := Lib.hid (HO1.out.keep hb2)
        have kb2 := HKB.out _ HB2.out
        clear hb2 HO1 kb1
        rw [HD.out]
        obtain ⟨Z, hZ⟩ : ∃ Z, Z = srTo (adjB L) (nthR L) s := ⟨_, rfl⟩
        have HS : Hid (srTo (adjB L) (nthR L) (s + 1) = srF (adjB L) (nthR L) 16 [(s : Int)] Z) := by rw [hZ]; rfl
        rw [← hZ] at HO2
        clear hZ
        have hrow := World.ownsRow_lit w2 #[.int .i64 (s : Int)] (e := 2) (size := 1) 1 (base := w2.heap.size) (Nat.le_refl _) (by decide) rfl
        have HR : Hid (OwnRow 2 (w2.alloc (.cells #[.int .i64 (s : Int)] 2)) w2.heap.size (.slice (some ⟨w2.heap.size, 0, none⟩) 1 1) [(s : Int)]) :=
          OwnRow.of_ownsRow (n := 1) (xs := [(s : Int)]) hrow (by unfold maxLen; simp) (fun x hx => by rw [List.mem_singleton] at hx; subst hx; unfold I64; omega)
        have HB3 : Hid (Below w2.heap.size w2 (w2.alloc (.cells #[.int .i64 (s : Int)] 2))) := (Below.refl _ _).alloc (Nat.le_refl _) _
        have hz2 : w.heap.size ≤ w2.heap.size := Nat.le_trans HB0.out.size HB2.out.size
        have HSR : Hid (Calls Tryd.prog 22 #[.agg #[.slice a0 L.length c0], .slice (some ⟨w2.heap.size, 0, none⟩) 1 1, .slice a m c] (w2.alloc (.cells #[.int .i64 (s : Int)] 2)) (GaveSr (w2.alloc (.cells #[.int .i64 (s : Int)] 2)) w.heap.size (srF (adjB L) (nthR L) 16 [(s : Int)] Z))) :=
          l8Search_any a0 c0 L HG.out 16 [(s : Int)] Z _ _ _ w.heap.size (HGK.out _ (HBW.out _ (HB2.out.trans (HB3.out.mono HB2.out.size)))) HR.out.row (HO2.out.keep HB3.out) (Nat.le_trans hz2 HB3.out.size) (PathC.one (by omega)) (fun i hi => by
            obtain rfl : i = 0 := by simpa using hi
            exact hsl) (Nat.le_refl _)
        clear hrow HR
        go_wp2_with fail
        refine HSR.out.mono ?_
        rintro e w4 ⟨n4, a4, c4, rfl, ho4, hb4⟩
        have HB4 : Hid (Below wA.heap.size wA w4) := HB2.out.trans ((HB3.out.trans (hb4.mono HB3.out.size)).mono HB2.out.size)
        have HO4 : Hid (OwnRow 2 w4 w.heap.size (.slice a4 n4 c4) (srTo (adjB L) (nthR L) (s + 1))) := by
          show OwnRow _ _ _ _ _
          rw [HS.out]; exact ho4
        clear ho4 hb4 HSR
        go_wp2
        go_roundw
        case rel => exact ⟨s + 1, by omega, by go_num, _, _, _, rfl, HO4.out, HB4.out⟩
        case measure => simp [intOf]; omega
      · obtain rfl : s = L.length := by omega
        obtain ⟨a3, c3, e3⟩ := HO1.out.row.slice
        simp only [Value.slice.injEq] at e3
        obtain ⟨rfl, rfl, rfl⟩ := e3
        have HEND : Hid (OwnRow 2 w1 w.heap.size (.slice a (srTo (adjB L) (nthR L) L.length).length c) (clL L)) := by
          show OwnRow _ _ _ _ _
          rw [HF.out]; exact HO1.out
        have HBB : Hid (clB L = decide (0 < (srTo (adjB L) (nthR L) L.length).length)) := by
          show _ = _
          unfold clB
          rw [HF.out]
        go_wp2
        go_ret2
        rw [HBB.out]
        exact ⟨_, _, _, rfl, HEND.out, HBW.out _ HB1.out⟩
  · have HF : Hid (clL L = []) := if_neg hG
    have HFB : Hid (clB L = false) := by
      show _ = _
      unfold clB
      rw [HF.out]; rfl
    have HD : Hid (decide (GraphP L) = false) := decide_eq_false hG
    clear hG
    go_loopw [4, 5] (fun bv iv wr => iv = .int .i64 0 ∧ bv = .slice (some ⟨w.heap.size + 1, 0, none⟩) 0 0 ∧ OwnRow 2 wr w.heap.size (.slice (some ⟨w.heap.size + 1, 0, none⟩) 0 0) [] ∧ Below wA.heap.size wA wr) (fun _ iv _ => L.length - (intOf iv).toNat)
    case atStart => exact ⟨rfl, rfl, HO0.out, Below.refl _ _⟩
    case round =>
      clear HO0
      obtain ⟨rfl, rfl, ho, hb⟩ := hrel
      have HO := Lib.hid ho
      have HB := Lib.hid hb
      have kb := HKB.out _ hb
      clear ho hb
      go_wp2_with fail
      refine (l1Size_any _ L _ (HGK.out _ (HBW.out _ HB.out))).mono ?_
      rintro e w1 ⟨rfl, hb1⟩
      have HB1 : Hid (Below wA.heap.size wA w1) := HB.out.trans (hb1.mono HB.out.size)
      have HO1 := Lib.hid (HO.out.keep hb1)
      have kb1 := HKB.out _ HB1.out
      clear hb1 HO kb
      by_cases hsl : 0 < L.length
      · go_wp2_with fail
        refine (specGraphOk_any _ _ _ (HGK.out _ (HBW.out _ HB1.out))).mono ?_
        rintro e w2 ⟨rfl, hb2⟩
        have HB2 : Hid (Below wA.heap.size wA w2) := HB1.out.trans (hb2.mono HB1.out.size)
        have HO2 := Lib.hid (HO1.out.keep hb2)
        clear hb2 HO1 kb1
        rw [HD.out]
        go_wp2
        go_ret2
        rw [HFB.out, HF.out]
        exact ⟨_, _, _, rfl, HO2.out, HBW.out _ HB2.out⟩
      · go_wp2
        go_ret2
        rw [HFB.out, HF.out]
        exact ⟨_, _, _, rfl, HO1.out, HBW.out _ HB1.out⟩

end Go.Proofs.YtohjfcfcopbmoaaDoor
