/- Walks: ByDegree and ByFill of the model. -/
import Derived.Test.YtmfolclpddoplaaEG4
import Derived.Test.YtmfolclpddoplaaER16

namespace Go.Proofs.Ytmfolclpddoplaa
open Go.RowKit

theorem left_web {A : Nat → Nat → Bool} {ys : List Int} {v : Nat} (hv : hasB ys (v : Int) = false) : pm (leftB (fillX A ys) ys v) = pm (webX A ys v) := pm_congr (fun u _ => by
  unfold webX leftB
  rw [hv]; simp)
theorem specC_deg (A : Nat → Nat → Bool) {ys : List Int} {v : Nat} (hv : hasB ys (v : Int) = false) : specC A false ys v = degC A ys v := by
  show szB (leftB (fillX A ys) ys v) = szB (webX A ys v)
  unfold szB
  rw [left_web hv]
theorem specC_lack (A : Nat → Nat → Bool) {ys : List Int} {v : Nat} (hv : hasB ys (v : Int) = false) : specC A true ys v = lackC A ys v := by
  show missN (fillX A ys) (listM (pm (leftB (fillX A ys) ys v))) = _
  unfold lackC
  rw [miss_web, left_web hv]
theorem grL_congr {c c' : List Int → Nat → Nat} {n : Nat} (h : ∀ (ys : List Int) (v : Nat), hasB ys (v : Int) = false → c ys v = c' ys v) (k : Nat) : grL c n k = grL c' n k := by
  induction k with
  | zero => rfl
  | succ k ih =>
    rw [grL, grL, ih]
    congr 1
    congr 1
    exact bstTo_congr (fun _ _ => rfl) (fun v _ hv => h _ _ hv)
theorem spec_deg (A : Nat → Nat → Bool) (n : Nat) : grL (specC A false) n n = grL (degC A) n n := grL_congr (fun _ _ h => specC_deg A h) n
theorem spec_lack (A : Nat → Nat → Bool) (n : Nat) : grL (specC A true) n n = grL (lackC A) n n := grL_congr (fun _ _ h => specC_lack A h) n

set_option maxHeartbeats 1600000 in
theorem specByDegree_any (v : Value) (L : List (List Int)) (w : World) (h : GridAt w v L) : Calls Try.prog 23 #[.agg #[v]] w (GaveRow w (byDegL L)) := by
  obtain ⟨a0, c0, rfl⟩ := h.slice
  have HGK : Hid (∀ W, Below w.heap.size w W → GridAt W (.slice a0 L.length c0) L) := fun W hb => h.keep hb
  have HB0 : Hid (Below w.heap.size w (w.alloc (.cells #[.slice a0 L.length c0] 29))) := (Below.refl _ _).alloc (Nat.le_refl _) _
  have HX0 : Hid (BoxAt (w.alloc (.cells #[.slice a0 L.length c0] 29)) w.heap.size (.slice a0 L.length c0)) := BoxAt.new _ _ _
  clear h
  go_enter Try.func23, Try.ntmps23
  go_wp2_with fail
  refine (specGraphOk_any _ _ _ (HGK.out _ HB0.out)).mono ?_
  rintro e w1 ⟨rfl, hb1⟩
  have HB1 : Hid (Below w.heap.size w w1) := HB0.out.trans (hb1.mono HB0.out.size)
  have k1 := (HX0.out.keep hb1).1
  clear hb1
  by_cases hG : GraphP L
  · have HF : Hid (byDegL L = grL (degC (adjB L)) L.length L.length) := if_pos hG
    have HC := Lib.hid (l7Greedy_any _ L false w1 (HGK.out _ HB1.out) hG)
    rw [decide_eq_true hG]
    clear hG
    go_wp2_with fail
    refine HC.out.mono ?_
    rintro e w2 ⟨m, a, c, rfl, ho, hb2⟩
    rw [spec_deg] at ho
    have HO : Hid (OwnRow 2 w2 w.heap.size (.slice a m c) (byDegL L)) := by rw [HF.out]; exact ho.mono HB1.out.size
    have HB2 : Hid (Below w.heap.size w w2) := HB1.out.trans (hb2.mono HB1.out.size)
    clear ho hb2 k1 HC
    go_wp2
    go_ret
    exact ⟨_, _, _, rfl, HO.out, HB2.out⟩
  · have HF : Hid (byDegL L = []) := if_neg hG
    rw [decide_eq_false hG]
    clear hG
    go_wp2
    go_ret
    exact ⟨0, _, 0, rfl, by rw [HF.out]; exact own_none2 w1 _ HB1.out.size, HB1.out.alloc HB1.out.size _⟩

set_option maxHeartbeats 1600000 in
theorem specByFill_any (v : Value) (L : List (List Int)) (w : World) (h : GridAt w v L) : Calls Try.prog 24 #[.agg #[v]] w (GaveRow w (byFillL L)) := by
  obtain ⟨a0, c0, rfl⟩ := h.slice
  have HGK : Hid (∀ W, Below w.heap.size w W → GridAt W (.slice a0 L.length c0) L) := fun W hb => h.keep hb
  have HB0 : Hid (Below w.heap.size w (w.alloc (.cells #[.slice a0 L.length c0] 29))) := (Below.refl _ _).alloc (Nat.le_refl _) _
  have HX0 : Hid (BoxAt (w.alloc (.cells #[.slice a0 L.length c0] 29)) w.heap.size (.slice a0 L.length c0)) := BoxAt.new _ _ _
  clear h
  go_enter Try.func24, Try.ntmps24
  go_wp2_with fail
  refine (specGraphOk_any _ _ _ (HGK.out _ HB0.out)).mono ?_
  rintro e w1 ⟨rfl, hb1⟩
  have HB1 : Hid (Below w.heap.size w w1) := HB0.out.trans (hb1.mono HB0.out.size)
  have k1 := (HX0.out.keep hb1).1
  clear hb1
  by_cases hG : GraphP L
  · have HF : Hid (byFillL L = grL (lackC (adjB L)) L.length L.length) := if_pos hG
    have HC := Lib.hid (l7Greedy_any _ L true w1 (HGK.out _ HB1.out) hG)
    rw [decide_eq_true hG]
    clear hG
    go_wp2_with fail
    refine HC.out.mono ?_
    rintro e w2 ⟨m, a, c, rfl, ho, hb2⟩
    rw [spec_lack] at ho
    have HO : Hid (OwnRow 2 w2 w.heap.size (.slice a m c) (byFillL L)) := by rw [HF.out]; exact ho.mono HB1.out.size
    have HB2 : Hid (Below w.heap.size w w2) := HB1.out.trans (hb2.mono HB1.out.size)
    clear ho hb2 k1 HC
    go_wp2
    go_ret
    exact ⟨_, _, _, rfl, HO.out, HB2.out⟩
  · have HF : Hid (byFillL L = []) := if_neg hG
    rw [decide_eq_false hG]
    clear hG
    go_wp2
    go_ret
    exact ⟨0, _, 0, rfl, by rw [HF.out]; exact own_none2 w1 _ HB1.out.size, HB1.out.alloc HB1.out.size _⟩

end Go.Proofs.Ytmfolclpddoplaa
