/- The texts C1, C2, joined. -/
import Derived.Test.YtohjfcfcopbmoaaGreatDoorQB4
import Derived.Deep.RegionHeld3

/- Walks: the program's GraphOk; the laws' helpers in one form. -/
namespace Go.Proofs.YtohjfcfcopbmoaaGreatDoor
open Go.RowKit

theorem netBlk_new (w : World) (n : Nat) (M : Nat → Nat) : NetBlk 83 (w.alloc (.cells (netArr n M) 83)) w.heap.size n M := heap_alloc_new _ _

/-- A new box for a net, and a net stored into it: nothing that was there has turned. -/
theorem NetPut.since {T : TypeId} {w w' : World} {o : Obj} {n : Nat} {M : Nat → Nat} (hp : NetPut T (w.alloc o) w' w.heap.size n M) : Below w.heap.size w w' :=
  ((Below.refl _ _).alloc (Nat.le_refl _) _).trans hp.below

/-! ### The laws' helpers, all in one form -/

/-- .. a slice of int64 of its own make. -/
def GaveRow (w : World) (xs : List Int) (e : Ending) (w' : World) : Prop :=
  ∃ n a c, e = .returned (.slice a n c) ∧ OwnRow 2 w' w.heap.size (.slice a n c) xs ∧ Below w.heap.size w w'
end Go.Proofs.YtohjfcfcopbmoaaGreatDoor

/- Walks: EdgeIn. -/
namespace Go.Proofs.YtohjfcfcopbmoaaGreatDoor
open Go.RowKit

set_option maxHeartbeats 400000 in
theorem l1There_any (v : Value) (L : List (List Int)) (u : Int) (w : World) (h : GridAt w v L) :
    Calls Tryz.prog 210 #[.agg #[v], .int .i64 u] w fun e w' => e = .returned (.bool (inB u 0 ((L.length : Int) - 1))) ∧ Below w.heap.size w w' := by
  have hl := h.len
  unfold maxLen at hl
  obtain ⟨a0, c0, rfl⟩ := h.slice
  have ha : Below w.heap.size w (w.alloc (.cells #[.slice a0 L.length c0] 26)) := (Below.refl _ _).alloc (Nat.le_refl _) _
  have hk := h.keep ha
  have HA := Lib.hid ha
  clear ha
  go_enter Tryz.func210, Tryz.ntmps210
  go_wp2_with fail
  refine (l1Size_any _ _ _ hk).mono ?_
  rintro e w1 ⟨rfl, hb1⟩
  have HB1 : Hid (Below w.heap.size w w1) := HA.out.trans (hb1.mono (by simp))
  clear hb1 hk h
  go_wp2_with fail
  refine (l1In_any _ _ _ _).mono ?_
  rintro e w' ⟨rfl, rfl⟩
  go_wp2
  go_ret
  exact ⟨rfl, HB1.out⟩

set_option maxHeartbeats 400000 in
theorem l1Edge_any (v : Value) (L : List (List Int)) (u x : Int) (w : World) (h : GridAt w v L) (h0 : 0 ≤ u) (h1 : u < (L.length : Int)) :
    Calls Tryz.prog 83 #[.agg #[v], .int .i64 u, .int .i64 x] w fun e w' => e = .returned (.bool (hasB (nthR L u.toNat) x)) ∧ Below w.heap.size w w' := by
  have hl := h.len
  unfold maxLen at hl
  obtain ⟨b, o, c, A, C, rfl, l1, l2, hc⟩ := h.pos (by omega)
  have hcu := hc u.toNat (by omega)
  have ha : Below w.heap.size w (w.alloc (.cells #[.slice (some ⟨b, o, none⟩) L.length c] 26)) := (Below.refl _ _).alloc (Nat.le_refl _) _
  have hc1 := cell_keep ha hcu.1
  have hr1 := hcu.2.keep ha
  have HA := Lib.hid ha
  clear ha hc hcu h
  go_enter Tryz.func83, Tryz.ntmps83
  go_wp2_with fail
  refine (l1Has_any _ _ _ _ hr1).mono ?_
  rintro e w' ⟨rfl, rfl⟩
  go_wp2
  go_ret
  exact ⟨rfl, HA.out⟩

/-- What EdgeIn answers. -/
def edgeB (L : List (List Int)) (u x : Int) : Bool := decide (GraphP L) && inB u 0 ((L.length : Int) - 1) && inB x 0 ((L.length : Int) - 1) && hasB (nthR L u.toNat) x

theorem rowM_edge {L : List (List Int)} (hG : GraphP L) {u : Nat} (hu : u < L.length) (x : Int) : hasM (rowM L u) x = (inB x 0 ((L.length : Int) - 1) && hasB (nthR L u) x) := by
  have hs : ∀ v, v < L.length → SetP (nthR L v) L.length := fun v hv => (hG.2.1 v hv).1
  have hz := hG.1
  by_cases h1 : 0 ≤ x ∧ x < 16
  · obtain ⟨k, rfl⟩ := Int.eq_ofNat_of_zero_le h1.1
    rw [rowM_has hs hu (by omega)]
    by_cases h2 : inB (k : Int) 0 ((L.length : Int) - 1) = true
    · rw [h2]; simp
    · have h2' : inB (k : Int) 0 ((L.length : Int) - 1) = false := by simpa using h2
      rw [h2', Bool.false_and]
      cases hh : hasB (nthR L u) k with
      | false => rfl
      | true =>
        obtain ⟨i, hi, e⟩ := (hasB_iff _ _).1 hh
        have := hs u hu i hi
        have h3 := this.2.1
        have h4 := this.1
        rw [e] at h3 h4
        simp [inB] at h2
        omega
  · have e1 : hasM (rowM L u) x = false := by unfold hasM; rw [decide_eq_false h1, Bool.false_and]
    have e2 : inB x 0 ((L.length : Int) - 1) = false := by unfold inB; rw [decide_eq_false_iff_not]; omega
    rw [e1, e2, Bool.false_and]

set_option maxHeartbeats 800000 in
theorem implEdgeIn_any (v : Value) (L : List (List Int)) (u x : Int) (w : World) (h : GridAt w v L) (_hu : I64 u) (_hx : I64 x) :
    Calls Tryz.prog 195 #[.agg #[v], .int .i64 u, .int .i64 x] w fun e w' => e = .returned (.bool (edgeB L u x)) ∧ Below w.heap.size w w' := by
  obtain ⟨a0, c0, rfl⟩ := h.slice
  have ha : Below w.heap.size w (w.alloc (.cells #[.slice a0 L.length c0] 26)) := (Below.refl _ _).alloc (Nat.le_refl _) _
  have hk := h.keep ha
  have HA := Lib.hid ha
  clear ha
  go_enter Tryz.func195, Tryz.ntmps195
  go_wp2_with fail
  refine (netOf_any _ _ _ hk).mono ?_
  rintro e w1 ⟨rfl, hb1⟩
  have HB1 : Hid (Below w.heap.size w w1) := HA.out.trans (hb1.mono (by simp))
  have hz : w.heap.size ≤ w1.heap.size := HB1.out.size
  have hnb := netBlk_new w1 0 (fun _ => 0)
  clear hb1 hk h
  by_cases hG : GraphP L
  · have hz1 := hG.1
    have hsP : ∀ v, v < L.length → SetP (nthR L v) L.length := fun v hv => (hG.2.1 v hv).1
    rw [decide_eq_true hG, netArr_yes hG]
    by_cases hu : 0 ≤ u ∧ u < (L.length : Int)
    · have hnu : u.toNat < L.length := by omega
      have HE : Hid (edgeB L u x = hasM (rowM L u.toNat) x) := by
        show edgeB L u x = _
        rw [rowM_edge hG hnu]
        have : inB u 0 ((L.length : Int) - 1) = true := by simp [inB]; omega
        simp [edgeB, hG, this]
      have hml := rowM_lt (L := L) (by omega) hsP u.toNat
      have hdu : decide (0 ≤ u ∧ u < (L.length : Int)) = true := by simpa using hu
      have HDU := Lib.hid hdu
      obtain ⟨hu0, hu1⟩ := hu
      have hu16 : u < 16 := by omega
      have hu16' : u.toNat < 16 := by omega
      clear hG hsP hdu
      go_wp2_with (first | (refine wpList_store_net rfl 83 (.tmp 7) (.tmp 12) rfl w1.heap.size L.length (rowM L) rfl rfl Tryz.sizeNet 0 (fun _ => 0) hnb ?_; intro w3 hp; have hn3 := hp.net.at; have hn0 := hn3.1; have hnu3 := hn3.2 u.toNat hu16'; have HB3 : Hid (Below w.heap.size w w3) := (HB1.out.alloc hz _).trans (hp.below.mono hz); clear hp hn3) | (go_at_call 170; refine (isVertex_any _ _ _).mono ?_; rintro e w' ⟨rfl, rfl⟩; rw [HDU.out]) | (go_at_call 78; refine (has_any _ _ _ hml).mono ?_; rintro e w' ⟨rfl, rfl⟩))
      go_ret
      exact ⟨ret_bool HE.out.symm, HB3.out⟩
    · have HE : Hid (edgeB L u x = false) := by
        show edgeB L u x = _
        have : inB u 0 ((L.length : Int) - 1) = false := by unfold inB; rw [decide_eq_false_iff_not]; omega
        simp [edgeB, this]
      have hdu : decide (0 ≤ u ∧ u < (L.length : Int)) = false := by simpa using hu
      have HDU := Lib.hid hdu
      clear hG hsP hdu hu
      go_wp2_with (first | (refine wpList_store_net rfl 83 (.tmp 7) (.tmp 12) rfl w1.heap.size L.length (rowM L) rfl rfl Tryz.sizeNet 0 (fun _ => 0) hnb ?_; intro w3 hp; have hn3 := hp.net.at; have hn0 := hn3.1; have HB3 : Hid (Below w.heap.size w w3) := (HB1.out.alloc hz _).trans (hp.below.mono hz); clear hp hn3) | (go_at_call 170; refine (isVertex_any _ _ _).mono ?_; rintro e w' ⟨rfl, rfl⟩; rw [HDU.out]))
      go_ret
      exact ⟨ret_bool HE.out.symm, HB3.out⟩
  · have HE : Hid (edgeB L u x = false) := by show edgeB L u x = _; simp [edgeB, hG]
    rw [decide_eq_false hG, netArr_no hG]
    clear hG
    go_wp2_with (refine wpList_store_net rfl 83 (.tmp 7) (.tmp 12) rfl w1.heap.size 0 (fun _ => 0) rfl rfl Tryz.sizeNet 0 (fun _ => 0) hnb ?_; intro w3 hp; have HB3 : Hid (Below w.heap.size w w3) := (HB1.out.alloc hz _).trans (hp.below.mono hz); clear hp)
    go_ret
    exact ⟨ret_bool HE.out.symm, HB3.out⟩

end Go.Proofs.YtohjfcfcopbmoaaGreatDoor
