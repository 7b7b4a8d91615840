/- Walks: MeetsOf, of the program. -/
import Derived.Test.YtohjfcfcopbmoaaQDM4
import Derived.Test.YtohjfcfcopbmoaaQF4

namespace Go.Proofs.Ytohjfcfcopbmoaa
open Go.RowKit Go.Shelf

/-- What MeetsOf answers. -/
def meetsL (B K : List (List Int)) : List (List Int) := if FormP B K then K.map (meetL B) else []
/-- The first rows are there, the others are nil yet. -/
def meetsTo (B K : List (List Int)) (k : Nat) : List (List Int) := (List.range K.length).map (fun j => if j < k then meetL B (nthR K j) else [])
theorem meetsTo_len (B K : List (List Int)) (k : Nat) : (meetsTo B K k).length = K.length := by simp [meetsTo]
theorem meetsTo_nth (B K : List (List Int)) (k : Nat) {j : Nat} (h : j < K.length) : nthR (meetsTo B K k) j = if j < k then meetL B (nthR K j) else [] := by simp [meetsTo, nthR, h]
theorem meetsTo_set (B K : List (List Int)) {k : Nat} (h : k < K.length) : (meetsTo B K k).set k (meetL B (nthR K k)) = meetsTo B K (k + 1) := by
  refine nthR_ext (by simp [meetsTo]) (fun j hj => ?_)
  have hj' : j < K.length := by simpa [meetsTo] using hj
  rw [meetsTo_nth B K _ hj']
  by_cases e : j = k
  · subst e
    simp [nthR, meetsTo, hj']
  · have h1 : nthR ((meetsTo B K k).set k (meetL B (nthR K k))) j = nthR (meetsTo B K k) j := by
      unfold nthR
      rw [List.getD_eq_getElem?_getD, List.getElem?_set_ne (fun h => e h.symm), ← List.getD_eq_getElem?_getD]
    rw [h1, meetsTo_nth B K _ hj']
    by_cases h2 : j < k
    · rw [if_pos h2, if_pos (by omega)]
    · rw [if_neg h2, if_neg (by omega)]
theorem meetsTo_all {B K : List (List Int)} (h : FormP B K) : meetsTo B K K.length = meetsL B K := by
  unfold meetsL
  rw [if_pos h]
  refine nthR_ext (by simp [meetsTo]) (fun j hj => ?_)
  have hj' : j < K.length := by simpa [meetsTo] using hj
  rw [meetsTo_nth B K _ hj', if_pos hj']
  simp [nthR, hj']
theorem made_grid (w : World) (n : Nat) (hn : n ≤ 16) (B K : List (List Int)) (hK : K.length = n) : OwnGrid 2 33 (w.alloc (.cells (madeCells #[.slice none 0 0] n) 33)) w.heap.size (.slice (some ⟨w.heap.size, 0, none⟩) n n) (meetsTo B K 0) := by
  have hr := World.rowIs_made w (.slice none 0 0) n 33
  obtain ⟨cur, c1, c2, c3⟩ := hr
  have hl := meetsTo_len B K 0
  refine ⟨fun _ => .slice none 0 0, by rw [hl]; unfold maxLen; omega, Or.inr ⟨w.heap.size, n, cur, by rw [hl, hK], Nat.le_refl _, c1, by omega, by unfold maxLen; omega, c2, fun i hi => c3 i (by omega)⟩, fun i hi => ?_, fun i j k _ _ hk => by simp [Value.ownBlock] at hk⟩
  rw [hl] at hi
  rw [meetsTo_nth B K 0 hi, if_neg (by omega)]
  exact ⟨by simp, Nat.zero_le _, .inl ⟨rfl, rfl⟩⟩

set_option maxHeartbeats 4000000 in
set_option maxRecDepth 100000 in
theorem implMeetsOf_any (v u : Value) (B K : List (List Int)) (w : World) (h : GridAt w v B) (h' : GridAt w u K) (hs : ∀ i, i < B.length → (nthR B i).length ≤ 2000000) :
    Calls Try.prog 26 #[.agg #[v, u]] w (GaveGrid w (meetsL B K)) := by
  have hl := h.len
  have hl' := h'.len
  unfold maxLen at hl hl'
  obtain ⟨a, c, rfl⟩ := h.slice
  obtain ⟨a', c', rfl⟩ := h'.slice
  have HB : Hid (Below w.heap.size w (w.alloc (.cells #[.slice a B.length c, .slice a' K.length c'] 27))) := (Below.refl _ _).alloc (Nat.le_refl _) _
  have X0 := Lib.hid (Box2.new w (.slice a B.length c) (.slice a' K.length c') 27)
  have HG := Lib.hid h
  have HK := Lib.hid h'
  have HS := Lib.hid hs
  clear h h' hs
  go_enter Try.func26, Try.ntmps26
  go_wp2_with fail
  refine (webOf_any _ _ B K _ (HG.out.keep HB.out) (HK.out.keep HB.out)).mono ?_
  rintro e w1 ⟨m1, a1, c1, rfl, ho1, hb1⟩
  have HB1 : Hid (Below w.heap.size w w1) := HB.out.trans (hb1.mono HB.out.size)
  have X1 := Lib.hid (X0.out.keep hb1)
  clear hb1 HB X0 ho1
  by_cases hF : FormP B K
  · rw [decide_eq_true hF]
    have hk16 := hF.1
    have HF := Lib.hid hF
    clear hF
    obtain ⟨wA, hwA⟩ : ∃ wA, wA = (w1.alloc (.cells #[.slice a1 m1 c1] 37)).alloc (.cells (madeCells #[.slice none 0 0] K.length) 33) := ⟨_, rfl⟩
    have hbG : Below w1.heap.size w1 (w1.alloc (.cells #[.slice a1 m1 c1] 37)) := (Below.refl _ _).alloc (Nat.le_refl _) _
    have hbA : Below w1.heap.size w1 wA := by rw [hwA]; exact hbG.alloc (by simp) _
    have X2 := Lib.hid (X1.out.keep hbA)
    have HB2 : Hid (Below w.heap.size w wA) := HB1.out.trans (hbA.mono HB1.out.size)
    have hz1 : w.heap.size < w1.heap.size := X1.out.lt
    have hsA : wA.heap.size = w1.heap.size + 2 := by rw [hwA]; simp
    have HO : Hid (OwnGrid 2 33 wA (w1.heap.size + 1) (.slice (some ⟨w1.heap.size + 1, 0, none⟩) K.length K.length) (meetsTo B K 0)) := by
      rw [hwA]
      have h1 := made_grid (w1.alloc (.cells #[.slice a1 m1 c1] 37)) K.length hk16 B K rfl
      rw [size_alloc1] at h1
      exact h1
    have k1 := (X1.out.keep hbG).c1
    have k2 := X2.out.c1
    rw [hwA] at k2
    have hmk := run_make_row' (P := Try.prog) 22 33 (.slice none 0 0) 24 Try.underlying22 Try.infoR rfl .i64 .i64 K.length (by omega) (by omega)
    clear hbA hbG
    go_wp2
    rw [← hwA]
    clear k1 k2 hwA hmk
    go_loopw [22] (fun i wr => ∃ k : Nat, k ≤ K.length ∧ i = .int .i64 k ∧ OwnGrid 2 33 wr (w1.heap.size + 1) (.slice (some ⟨w1.heap.size + 1, 0, none⟩) K.length K.length) (meetsTo B K k) ∧ Below (w1.heap.size + 1) wA wr ∧ w1.heap.size + 2 ≤ wr.heap.size) (fun i _ => K.length - (intOf i).toNat)
    case atStart => exact ⟨0, Nat.zero_le _, rfl, HO.out, Below.refl _ _, by omega⟩
    case round =>
      obtain ⟨k, hk, rfl, ho, hb, hzr⟩ := hrel
      have HOR := Lib.hid ho
      have HBR := Lib.hid hb
      have HBW : Hid (Below w.heap.size w wr) := HB2.out.trans (hb.mono (by omega))
      have kx0 : wr.cell? ⟨w.heap.size, 0, none⟩ = some (.slice a B.length c) := by rw [hb.cell (by simp; omega)]; exact X2.out.c0
      clear ho hb HO
      by_cases hlt : k < K.length
      · obtain ⟨b2, o2, c2, A, C, e5, l1, l2, hc⟩ := (HK.out.keep HBW.out).pos (by omega)
        simp only [Value.slice.injEq, true_and] at e5
        obtain ⟨rfl, rfl⟩ := e5
        obtain ⟨hck, hrow⟩ := hc k hlt
        have hkI : (k : Int) < (K.length : Int) := by omega
        have HED := Lib.hid (HF.out.2.2.2 k hlt)
        clear hc
        go_wp2_with fail
        refine (meetAt_any _ _ B (nthR K k) wr (HG.out.keep HBW.out) hrow HED.out HS.out).mono ?_
        rintro e w5 ⟨n5, a5, c5, rfl, ho5, hb5⟩
        have hO5 := HOR.out.keep hb5
        obtain ⟨cur, hcur⟩ := hO5.blkT
        have hfz := frozen_of_row w5 (w1.heap.size + 1) k _ _ hcur
        have hpos := hO5.grid.pos (by rw [meetsTo_len]; omega)
        obtain ⟨bq, oq, cq, Aq, Cq, eq, lq1, lq2, hcq⟩ := hpos
        simp only [Value.slice.injEq, Option.some.injEq, Addr.mk.injEq, and_true] at eq
        obtain ⟨⟨rfl, rfl⟩, -, rfl⟩ := eq
        have hcc := (hcq k (by rw [meetsTo_len]; omega)).1
        rw [Nat.zero_add] at hcc
        have hset := OwnGrid.setRow (w := wr) (w' := w5) (i := k) (by decide) HOR.out hb5 (by rw [meetsTo_len]; omega) (ho5.mono (by omega)) (fun q hq => Or.inl (ho5.lt q hq).1)
        rw [meetsTo_set B K hlt] at hset
        have HSET := Lib.hid hset
        have HB5 : Hid (Below (w1.heap.size + 1) wA (w5.setCell ⟨w1.heap.size + 1, k, none⟩ (.slice a5 n5 c5))) := (HBR.out.trans (hb5.mono (by omega))).setCell (by simp) _
        have hz5 : w1.heap.size + 2 ≤ (w5.setCell ⟨w1.heap.size + 1, k, none⟩ (.slice a5 n5 c5)).heap.size := by rw [size_setCell1]; have := hb5.size; omega
        clear ho5 hb5 hO5 hcur hcq hset hrow hck kx0
        go_wp2
        go_roundw
        case rel => exact ⟨k + 1, by omega, by go_num, HSET.out, HB5.out, hz5⟩
        case measure => simp [intOf]; omega
      · obtain rfl : k = K.length := by omega
        have HM := Lib.hid (meetsTo_all HF.out)
        have hor := HOR.out
        rw [HM.out] at hor
        have HO6 := Lib.hid (hor.mono (show w.heap.size ≤ w1.heap.size + 1 by omega))
        clear hor kx0
        go_wp2
        go_ret
        exact ⟨_, _, _, rfl, HO6.out, HBW.out⟩
  · have HN : Hid (meetsL B K = []) := if_neg hF
    rw [decide_eq_false hF]
    clear hF
    have HB2 : Hid (Below w.heap.size w (w1.alloc (.cells #[.slice a1 m1 c1] 37))) := HB1.out.alloc HB1.out.size _
    go_wp2
    go_ret
    refine ⟨0, none, 0, rfl, ?_, HB2.out⟩
    rw [HN.out]
    exact own_nil _ _

end Go.Proofs.Ytohjfcfcopbmoaa
