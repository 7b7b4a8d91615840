/- Walks: SetOk. -/
import Derived.Test.YtjbfoiolcpigfaaDoorC2
namespace Go.Proofs.YtjbfoiolcpigfaaDoor
open Go.RowKit

/-- What SetOk answers. -/
def setB (L : List (List Int)) (xs : List Int) : Bool := decide (GraphP L) && decide (SetP xs L.length)

set_option maxHeartbeats 800000 in
theorem specSetOk_any (v v1 : Value) (L : List (List Int)) (xs : List Int) (w : World) (h : GridAt w v L) (h1 : RowAt w v1 xs) :
    Calls Tryd.prog 113 #[.agg #[v], v1] w fun e w' => e = .returned (.bool (setB L xs)) ∧ Below w.heap.size w w' := by
  obtain ⟨a0, c0, rfl⟩ := h.slice
  have ha : Below w.heap.size w (w.alloc (.cells #[.slice a0 L.length c0] 29)) := (Below.refl _ _).alloc (Nat.le_refl _) _
  have hk := h.keep ha
  have R0 := Lib.hid (h1.keep ha)
  have HA := Lib.hid ha
  clear ha
  go_enter Tryd.func113, Tryd.ntmps113
  go_wp2_with fail
  refine (specGraphOk_any _ _ _ hk).mono ?_
  rintro e w1 ⟨rfl, hb1⟩
  have kb1 : w1.cell? ⟨w.heap.size, 0, none⟩ = some (.slice a0 L.length c0) := by rw [hb1.cell (by simp)]; go_simp
  have R1 := Lib.hid (hk.keep hb1)
  have S1 := Lib.hid (R0.out.keep hb1)
  have HB1 : Hid (Below w.heap.size w w1) := HA.out.trans (hb1.mono (by simp))
  clear hb1 hk h HA R0
  by_cases hG : GraphP L
  · have HE : Hid (setB L xs = decide (SetP xs L.length)) := by show setB L xs = _; simp [setB, hG]
    have hz := hG.1
    rw [decide_eq_true hG]
    clear hG
    go_wp2_with fail
    refine (l1Size_any _ _ _ R1.out).mono ?_
    rintro e w2 ⟨rfl, hb2⟩
    have S2 := Lib.hid (S1.out.keep hb2)
    have HB2 : Hid (Below w.heap.size w w2) := HB1.out.trans (hb2.mono HB1.out.size)
    clear hb2 kb1 R1 HB1 S1
    go_wp2_with fail
    refine (l1Set_any _ _ _ _ S2.out (by omega) (by omega)).mono ?_
    rintro e w3 ⟨rfl, hd3⟩
    have HB3 : Hid (Below w.heap.size w w3) := HB2.out.trans (hd3.below _)
    clear hd3
    go_wp2
    go_ret
    exact ⟨ret_bool HE.out.symm, HB3.out⟩
  · have HE : Hid (setB L xs = false) := by show setB L xs = _; simp [setB, hG]
    rw [decide_eq_false hG]
    clear hG
    go_wp2
    go_ret
    exact ⟨ret_bool HE.out.symm, HB1.out⟩

set_option maxHeartbeats 800000 in
theorem implSetOk_any (v v1 : Value) (L : List (List Int)) (xs : List Int) (w : World) (h : GridAt w v L) (h1 : RowAt w v1 xs) :
    Calls Tryd.prog 76 #[.agg #[v], v1] w fun e w' => e = .returned (.bool (setB L xs)) ∧ Below w.heap.size w w' := by
  obtain ⟨a0, c0, rfl⟩ := h.slice
  have ha : Below w.heap.size w (w.alloc (.cells #[.slice a0 L.length c0] 29)) := (Below.refl _ _).alloc (Nat.le_refl _) _
  have hk := h.keep ha
  have R0 := Lib.hid (h1.keep ha)
  have HA := Lib.hid ha
  clear ha
  go_enter Tryd.func76, Tryd.ntmps76
  go_wp2_with fail
  refine (netOf_any _ _ _ hk).mono ?_
  rintro e w1 ⟨rfl, hb1⟩
  have HB1 : Hid (Below w.heap.size w w1) := HA.out.trans (hb1.mono (by simp))
  have S1 := Lib.hid (R0.out.keep hb1)
  have hz : w.heap.size ≤ w1.heap.size := HB1.out.size
  have hnb := netBlk_new w1 0 (fun _ => 0)
  clear hb1 hk h HA R0
  by_cases hG : GraphP L
  · have hz1 := hG.1
    have HE : Hid (setB L xs = decide (SetP xs L.length)) := by show setB L xs = _; simp [setB, hG]
    rw [decide_eq_true hG, netArr_yes hG]
    clear hG
    go_wp2_with (first | (refine wpList_store_net rfl 74 (.tmp 5) (.tmp 10) rfl w1.heap.size L.length (rowM L) rfl rfl Tryd.sizeNet 0 (fun _ => 0) hnb ?_; intro w3 hp; have hn0 := hp.net.at.1; have HB3 : Hid (Below w.heap.size w w3) := (HB1.out.alloc hz _).trans (hp.below.mono hz); have S3 := Lib.hid (S1.out.keep hp.since); clear hp) | (go_at_call 95; refine (maskOf_any _ _ _ _ S3.out (by omega) (by omega)).mono ?_; rintro e w4 ⟨rfl, hb4⟩; have HB4 : Hid (Below w.heap.size w w4) := HB3.out.trans (hb4.mono HB3.out.size); clear hb4))
    all_goals go_ret
    all_goals exact ⟨ret_bool (by rw [HE.out]; symm; first | exact decide_eq_true (by assumption) | exact decide_eq_false (by assumption)), HB4.out⟩
  · have HE : Hid (setB L xs = false) := by show setB L xs = _; simp [setB, hG]
    rw [decide_eq_false hG, netArr_no hG]
    clear hG
    go_wp2_with (refine wpList_store_net rfl 74 (.tmp 5) (.tmp 10) rfl w1.heap.size 0 (fun _ => 0) rfl rfl Tryd.sizeNet 0 (fun _ => 0) hnb ?_; intro w3 hp; have HB3 : Hid (Below w.heap.size w w3) := (HB1.out.alloc hz _).trans (hp.below.mono hz); clear hp)
    go_ret
    exact ⟨ret_bool HE.out.symm, HB3.out⟩

end Go.Proofs.YtjbfoiolcpigfaaDoor
