/- Walks: WaysIn, of the program. -/
import Derived.Test.YtohjfcfcopbmoaaDE5

namespace Go.Proofs.Ytohjfcfcopbmoaa
open Go.RowKit

theorem degTo_out {B K : List (List Int)} (hF : FormP B K) {b : Nat} (hb : B.length ≤ b) : ∀ k, k ≤ K.length → degTo K (b : Int) k = 0
  | 0, _ => rfl
  | k + 1, hk => by
    rw [degTo, degTo_out hF hb k (by omega)]
    obtain ⟨h1, h2, h3, h4⟩ := hF.2.2.2 k (by omega)
    have hn : hasB (nthR K k) (b : Int) = false := by
      cases hh : hasB (nthR K k) (b : Int) with
      | false => rfl
      | true =>
        exfalso
        have hm := (hasB_mem _ _).1 hh
        obtain ⟨i, hi, e⟩ := List.getElem_of_mem hm
        rw [← nth_eq hi] at e
        have : i = 0 ∨ i = 1 := by omega
        rcases this with rfl | rfl <;> omega
    rw [hn]
    rfl
theorem edge_has {xs : List Int} {n : Int} (h : EdgeP xs n) (b : Int) : hasB xs b = (decide (nth xs 0 = b) || decide (nth xs 1 = b)) := by
  obtain ⟨h1, h2, h3, h4⟩ := h
  match xs, h1 with
  | [x, y], _ =>
    cases hh : hasB [x, y] b with
    | true =>
      have hm := (hasB_mem _ _).1 hh
      simp only [List.mem_cons, List.not_mem_nil, or_false] at hm
      simp only [nth, List.getD_cons_zero, List.getD_cons_succ]
      rcases hm with rfl | rfl <;> simp
    | false =>
      have hn : b ∉ [x, y] := fun hm => by rw [(hasB_mem _ _).2 hm] at hh; cases hh
      simp only [List.mem_cons, List.not_mem_nil, or_false, not_or] at hn
      simp only [nth, List.getD_cons_zero, List.getD_cons_succ]
      rw [decide_eq_false (fun e => hn.1 e.symm), decide_eq_false (fun e => hn.2 e.symm)]
      rfl

/-- Sixteen zeros. -/
abbrev zeros16 : Array Value := #[.int .i64 0, .int .i64 0, .int .i64 0, .int .i64 0, .int .i64 0, .int .i64 0, .int .i64 0, .int .i64 0, .int .i64 0, .int .i64 0, .int .i64 0, .int .i64 0, .int .i64 0, .int .i64 0, .int .i64 0, .int .i64 0]
theorem zeros16_at : ∀ i, i < 16 → zeros16[i]? = some (.int .i64 0)
  | 0, _ => rfl
  | 1, _ => rfl
  | 2, _ => rfl
  | 3, _ => rfl
  | 4, _ => rfl
  | 5, _ => rfl
  | 6, _ => rfl
  | 7, _ => rfl
  | 8, _ => rfl
  | 9, _ => rfl
  | 10, _ => rfl
  | 11, _ => rfl
  | 12, _ => rfl
  | 13, _ => rfl
  | 14, _ => rfl
  | 15, _ => rfl
  | n + 16, h => absurd h (by omega)
/-- The sixteen numbers. -/
def degsL (K : List (List Int)) : List Int := (List.range 16).map (fun j : Nat => (degTo K (j : Int) K.length : Int))
theorem degsL_nth (K : List (List Int)) {i : Nat} (h : i < 16) : nth (degsL K) i = (degTo K (i : Int) K.length : Int) := by simp [degsL, nth, h]
theorem ways_max {B K : List (List Int)} (hF : FormP B K) : waysV B K = decide (maxI (degsL K) 15 ≤ 2) := by
  have hB : B.length ≤ 16 := by
    have h5 : (1 : Int) ≤ B.length ∧ (B.length : Int) ≤ 16 := by simpa [inB] using hF.2.1
    omega
  unfold waysV
  refine decide_eq_decide.2 ?_
  rw [maxI_le]
  constructor
  · intro h i hi
    rw [degsL_nth K (by omega)]
    by_cases hb : i < B.length
    · have := h.2 i hb; omega
    · rw [degTo_out hF (by omega) _ (Nat.le_refl _)]; omega
  · intro h
    refine ⟨hF, fun b hb => ?_⟩
    have h2 := h b (by omega)
    rw [degsL_nth K (by omega)] at h2
    omega

set_option maxHeartbeats 4000000 in
theorem implWaysIn_any (v u : Value) (B K : List (List Int)) (w : World) (h : GridAt w v B) (h' : GridAt w u K) :
    Calls Try.prog 24 #[.agg #[v, u]] w fun e w' => e = .returned (.bool (waysV B K)) ∧ Below w.heap.size w w' := by
  have hl := h.len
  have hl' := h'.len
  unfold maxLen at hl hl'
  obtain ⟨a, c, rfl⟩ := h.slice
  obtain ⟨a', c', rfl⟩ := h'.slice
  have HB : Hid (Below w.heap.size w (w.alloc (.cells #[.slice a B.length c, .slice a' K.length c'] 27))) := (Below.refl _ _).alloc (Nat.le_refl _) _
  have X0 := Lib.hid (Box2.new w (.slice a B.length c) (.slice a' K.length c') 27)
  have HG := Lib.hid h
  have HK := Lib.hid h'
  clear h h'
  go_enter Try.func24, Try.ntmps24
  go_wp2_with fail
  refine (webOf_any _ _ B K _ (HG.out.keep HB.out) (HK.out.keep HB.out)).mono ?_
  rintro e w1 ⟨m1, a1, c1, rfl, ho1, hb1⟩
  have HB1 : Hid (Below w.heap.size w w1) := HB.out.trans (hb1.mono HB.out.size)
  have X1 := Lib.hid (X0.out.keep hb1)
  clear hb1 HB X0 ho1
  by_cases hF : FormP B K
  · rw [decide_eq_true hF]
    have hk16 := hF.1
    have HF := Lib.hid hF
    clear hF
    obtain ⟨wA, hwA⟩ : ∃ wA, wA = (w1.alloc (.cells #[.slice a1 m1 c1] 37)).alloc (.cells zeros16 71) := ⟨_, rfl⟩
    have hbA : Below w1.heap.size w1 wA := by rw [hwA]; exact ((Below.refl _ _).alloc (Nat.le_refl _) _).alloc (by simp) _
    have hsA : wA.heap.size = w1.heap.size + 2 := by rw [hwA]; simp
    have X2 := Lib.hid (X1.out.keep hbA)
    have HB2 : Hid (Below w.heap.size w wA) := HB1.out.trans (hbA.mono HB1.out.size)
    have hz1 : w.heap.size < w1.heap.size := X1.out.lt
    have HR : Hid (wA.rowIs (w1.heap.size + 1) 71 16 (fun j => .int .i64 (degTo K (j : Int) 0 : Int))) := by
      rw [hwA]
      have h1 := World.rowIs_alloc (w1.alloc (.cells #[.slice a1 m1 c1] 37)) zeros16 71 (fun j => .int .i64 (degTo K (j : Int) 0 : Int)) (fun i hi => zeros16_at i hi)
      rw [size_alloc1] at h1
      exact h1
    have k1 := X2.out.c1
    rw [hwA] at k1
    clear hbA
    go_wp2
    rw [← hwA]
    clear k1 hwA
    go_loopw [18] (fun i wr => ∃ k : Nat, k ≤ K.length ∧ i = .int .i64 k ∧ wr.rowIs (w1.heap.size + 1) 71 16 (fun j => .int .i64 (degTo K (j : Int) k : Int)) ∧ Below (w1.heap.size + 1) wA wr) (fun i _ => K.length - (intOf i).toNat)
    case atStart => exact ⟨0, Nat.zero_le _, rfl, HR.out, Below.refl _ _⟩
    case round =>
      obtain ⟨k, hk, rfl, hr, hb⟩ := hrel
      have HRK := Lib.hid hr
      have HBR := Lib.hid hb
      have HBW : Hid (Below w.heap.size w wr) := HB2.out.trans (hb.mono (by omega))
      clear hr hb HR
      by_cases hlt : k < K.length
      · obtain ⟨b2, o2, c2, A, C, e5, l1, l2, hc⟩ := HK.out.pos (by omega)
        simp only [Value.slice.injEq, true_and] at e5
        obtain ⟨rfl, rfl⟩ := e5
        obtain ⟨hck0, hrow⟩ := hc k hlt
        have hed := HF.out.2.2.2 k hlt
        have HED := Lib.hid hed
        obtain ⟨e1, e2, e3, e4⟩ := hed
        have h5 : (1 : Int) ≤ B.length ∧ (B.length : Int) ≤ 16 := by simpa [inB] using HF.out.2.1
        obtain ⟨b3, o3, c3, e6, m1, m2, hcr⟩ := hrow.pos (by omega)
        have hcx := hcr 0 (by omega)
        have hcy := hcr 1 (by omega)
        obtain ⟨x, hx⟩ : ∃ x : Nat, nth (nthR K k) 0 = (x : Int) := ⟨(nth (nthR K k) 0).toNat, by omega⟩
        obtain ⟨y, hy⟩ : ∃ y : Nat, nth (nthR K k) 1 = (y : Int) := ⟨(nth (nthR K k) 1).toNat, by omega⟩
        rw [hx] at hcx e2 e3
        rw [hy] at hcy e3 e4
        rw [Nat.add_zero] at hcx
        have hx16 : x < 16 := by omega
        have hy16 : y < 16 := by omega
        have hxy : x ≠ y := by omega
        have hb3 : b3 < w.heap.size := block_lt_of_cell hcx
        have hne3 : b3 ≠ w1.heap.size + 1 := by omega
        have HXY : Hid (nth (nthR K k) 0 = (x : Int) ∧ nth (nthR K k) 1 = (y : Int)) := ⟨hx, hy⟩
        rw [e6, e1] at hck0
        have hck := cell_keep HBW.out hck0
        have hcx' := cell_keep HBW.out hcx
        have hcy' := cell_keep HBW.out hcy
        have hkI : (k : Int) < (K.length : Int) := by omega
        have hrx := HRK.out.cell (i := x) hx16
        have hfx := HRK.out.frozen x
        have hdx := degTo_le K (x : Int) k
        have hdy := degTo_le K (y : Int) k
        have hwx : IntKind.i64.wrap ((degTo K (x : Int) k : Int) + 1) = (degTo K (x : Int) k : Int) + 1 := IntWalk.i64_in _ (by omega)
        have hwy : IntKind.i64.wrap ((degTo K (y : Int) k : Int) + 1) = (degTo K (y : Int) k : Int) + 1 := IntWalk.i64_in _ (by omega)
        have hr2 := HRK.out.set x (.int .i64 ((degTo K (x : Int) k : Int) + 1))
        have hry := hr2.cell (i := y) hy16
        rw [if_neg (fun e => hxy e.symm)] at hry
        have hfy := hr2.frozen y
        have hcy2 : (wr.setCell ⟨w1.heap.size + 1, x, none⟩ (.int .i64 ((degTo K (x : Int) k : Int) + 1))).cell? ⟨b3, o3 + 1, none⟩ = some (.int .i64 (y : Int)) := by
          rw [cell_set_other _ (by intro e; simp at e; try omega)]; exact hcy'
        have HR3 := Lib.hid (hr2.set y (.int .i64 ((degTo K (y : Int) k : Int) + 1)))
        have hx16I : (x : Int) < 16 := by omega
        have hy16I : (y : Int) < 16 := by omega
        clear hc hrow hcr hcx hcy hck0 hr2 hx hy e2 e3 e4
        go_wp2
        go_roundw
        case rel =>
          refine ⟨k + 1, by omega, by go_num, HR3.out.congr (fun j hj => ?_), (HBR.out.setCell (by simp) _).setCell (by simp) _⟩
          rw [degTo, edge_has HED.out, HXY.out.1, HXY.out.2]
          by_cases ejy : j = y
          · subst ejy
            rw [if_pos rfl, decide_eq_true rfl, Bool.or_true, if_pos rfl]; rfl
          · rw [if_neg ejy]
            by_cases ejx : j = x
            · subst ejx
              rw [if_pos rfl, decide_eq_true rfl, Bool.true_or, if_pos rfl]; rfl
            · rw [if_neg ejx, decide_eq_false (fun e => ejx (by omega)), decide_eq_false (fun e => ejy (by omega))]; rfl
        case measure => simp [intOf]; omega
      · obtain rfl : k = K.length := by omega
        have HN := Lib.hid (ways_max HF.out)
        have hrow : RowAt wr (.slice (some ⟨w1.heap.size + 1, 0, none⟩) 16 16) (degsL K) := by
          refine ⟨fun z hz => ?_, by simp [degsL, maxLen], Or.inr ⟨w1.heap.size + 1, 0, 16, by simp [degsL], by simp [degsL], by unfold maxLen; omega, fun i hi => ?_⟩⟩
          · obtain ⟨j, hj, rfl⟩ := List.mem_map.1 hz
            have := degTo_le K (j : Int) K.length
            unfold I64
            omega
          · have hi16 : i < 16 := by simpa [degsL] using hi
            rw [degsL_nth K hi16, Nat.zero_add]
            exact HRK.out.cell hi16
        have hlen : (degsL K).length = 16 := by simp [degsL]
        go_wp2_with fail
        refine (max_any _ (degsL K) _ hrow (by omega)).mono ?_
        rintro e w' ⟨rfl, rfl⟩
        rw [hlen]
        clear hrow hlen
        go_wp2
        go_ret
        exact ⟨ret_bool HN.out.symm, HBW.out⟩
  · have HN : Hid (waysV B K = false) := decide_eq_false (fun hw => hF hw.1)
    rw [decide_eq_false hF]
    clear hF
    have HB2 : Hid (Below w.heap.size w (w1.alloc (.cells #[.slice a1 m1 c1] 37))) := HB1.out.alloc HB1.out.size _
    go_wp2
    go_ret
    exact ⟨ret_bool HN.out.symm, HB2.out⟩

end Go.Proofs.Ytohjfcfcopbmoaa
