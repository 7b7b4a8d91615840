/- The texts C1, C2, C3, joined. -/
import Derived.Test.YtohjfcfcopbmoaaQB4
import Derived.Deep.RegionHeld3

/- Walks: the program's GraphOk; the laws' helpers in one form. -/
namespace Go.Proofs.Ytohjfcfcopbmoaa
open Go.RowKit

theorem netBlk_new (w : World) (n : Nat) (M : Nat → Nat) : NetBlk 61 (w.alloc (.cells (netArr n M) 61)) w.heap.size n M := heap_alloc_new _ _

/-- A new box for a net, and a net stored into it: nothing that was there has turned. -/
theorem NetPut.since {T : TypeId} {w w' : World} {o : Obj} {n : Nat} {M : Nat → Nat} (hp : NetPut T (w.alloc o) w' w.heap.size n M) : Below w.heap.size w w' :=
  ((Below.refl _ _).alloc (Nat.le_refl _) _).trans hp.below

/-! ### The laws' helpers, all in one form -/

/-- .. a slice of int64 of its own make. -/
def GaveRow (w : World) (xs : List Int) (e : Ending) (w' : World) : Prop :=
  ∃ n a c, e = .returned (.slice a n c) ∧ OwnRow 2 w' w.heap.size (.slice a n c) xs ∧ Below w.heap.size w w'
theorem toInt64S_gave (v : Value) (xs : List Int) (w : World) (h : RowAt w v xs) (hs : xs.length ≤ 1048576) : Calls Try.prog 15 #[v] w (GaveRow w xs) :=
  (toInt64S_any v xs w h hs).mono fun _ _ ⟨h1, h2, h3, _⟩ => ⟨_, _, _, h1, h2, h3⟩
theorem eqInt64S_b (v v' : Value) (xs ys : List Int) (w : World) (h : RowAt w v xs) (h' : RowAt w v' ys) :
    Calls Try.prog 18 #[v, v'] w fun e w' => e = .returned (.bool (decide (xs = ys))) ∧ Below w.heap.size w w' :=
  (eqInt64S_any v v' xs ys w h h').mono fun _ _ ⟨h1, h2⟩ => ⟨h1, h2.below _⟩
theorem eqInt64SS_b (v v' : Value) (xs ys : List (List Int)) (w : World) (h : GridAt w v xs) (h' : GridAt w v' ys) :
    Calls Try.prog 27 #[v, v'] w fun e w' => e = .returned (.bool (decide (xs = ys))) ∧ Below w.heap.size w w' :=
  (eqInt64SS_any v v' xs ys w h h').mono fun _ _ ⟨h1, h2⟩ => ⟨h1, h2.below _⟩
theorem szInt64SS_b (v : Value) (L : List (List Int)) (left : Int) (w : World) (h : GridAt w v L) (h0 : 0 ≤ left) (h1 : left ≤ 1048576) :
    Calls Try.prog 30 #[v, .int .i64 left] w fun e w' => e = .returned (.int .i64 (szGrid L left)) ∧ Below w.heap.size w w' :=
  (szInt64SS_any v L left w h h0 h1).mono fun _ _ ⟨h1, h2⟩ => ⟨h1, by rw [h2]; exact Below.refl _ _⟩

end Go.Proofs.Ytohjfcfcopbmoaa

/- Walks: EdgeIn. -/
namespace Go.Proofs.Ytohjfcfcopbmoaa
open Go.RowKit

set_option maxHeartbeats 400000 in
theorem l1There_any (v : Value) (L : List (List Int)) (u : Int) (w : World) (h : GridAt w v L) :
    Calls Try.prog 70 #[.agg #[v], .int .i64 u] w fun e w' => e = .returned (.bool (inB u 0 ((L.length : Int) - 1))) ∧ Below w.heap.size w w' := by
  have hl := h.len
  unfold maxLen at hl
  obtain ⟨a0, c0, rfl⟩ := h.slice
  have ha : Below w.heap.size w (w.alloc (.cells #[.slice a0 L.length c0] 37)) := (Below.refl _ _).alloc (Nat.le_refl _) _
  have hk := h.keep ha
  have HA := Lib.hid ha
  clear ha
  go_enter Try.func70, Try.ntmps70
  go_wp2_with fail
  refine (l1Size_any _ _ _ hk).mono ?_
  rintro e w1 ⟨rfl, hb1⟩
  have HB1 : Hid (Below w.heap.size w w1) := HA.out.trans (hb1.mono (by simp))
  clear hb1 hk h
  go_wp2_with fail
  refine (l1In_any _ _ _ _).mono ?_
  rintro e w' ⟨rfl, rfl⟩
  go_wp2
  go_ret
  exact ⟨rfl, HB1.out⟩

/-- What EdgeIn answers. -/
def edgeB (L : List (List Int)) (u x : Int) : Bool := decide (GraphP L) && inB u 0 ((L.length : Int) - 1) && inB x 0 ((L.length : Int) - 1) && hasB (nthR L u.toNat) x

theorem rowM_edge {L : List (List Int)} (hG : GraphP L) {u : Nat} (hu : u < L.length) (x : Int) : hasM (rowM L u) x = (inB x 0 ((L.length : Int) - 1) && hasB (nthR L u) x) := by
  have hs : ∀ v, v < L.length → SetP (nthR L v) L.length := fun v hv => (hG.2.1 v hv).1
  have hz := hG.1
  by_cases h1 : 0 ≤ x ∧ x < 16
  · obtain ⟨k, rfl⟩ := Int.eq_ofNat_of_zero_le h1.1
    rw [rowM_has hs hu (by omega)]
    by_cases h2 : inB (k : Int) 0 ((L.length : Int) - 1) = true
    · rw [h2]; simp
    · have h2' : inB (k : Int) 0 ((L.length : Int) - 1) = false := by simpa using h2
      rw [h2', Bool.false_and]
      cases hh : hasB (nthR L u) k with
      | false => rfl
      | true =>
        obtain ⟨i, hi, e⟩ := (hasB_iff _ _).1 hh
        have := hs u hu i hi
        have h3 := this.2.1
        have h4 := this.1
        rw [e] at h3 h4
        simp [inB] at h2
        omega
  · have e1 : hasM (rowM L u) x = false := by unfold hasM; rw [decide_eq_false h1, Bool.false_and]
    have e2 : inB x 0 ((L.length : Int) - 1) = false := by unfold inB; rw [decide_eq_false_iff_not]; omega
    rw [e1, e2, Bool.false_and]

end Go.Proofs.Ytohjfcfcopbmoaa

/- Walks: SetOk. -/
namespace Go.Proofs.Ytohjfcfcopbmoaa
open Go.RowKit

/-- What SetOk answers. -/
def setB (L : List (List Int)) (xs : List Int) : Bool := decide (GraphP L) && decide (SetP xs L.length)

end Go.Proofs.Ytohjfcfcopbmoaa
