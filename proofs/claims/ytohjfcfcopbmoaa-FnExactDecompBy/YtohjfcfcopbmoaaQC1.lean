/- The texts C1, C2, joined. -/
import Derived.Test.YtohjfcfcopbmoaaQB4
import Derived.Deep.RegionHeld3

/- Walks: the program's GraphOk; the laws' helpers in one form. -/
namespace Go.Proofs.Ytohjfcfcopbmoaa
open Go.RowKit

theorem netBlk_new (w : World) (n : Nat) (M : Nat → Nat) : NetBlk 61 (w.alloc (.cells (netArr n M) 61)) w.heap.size n M := heap_alloc_new _ _

/-- A new box for a net, and a net stored into it: nothing that was there has turned. -/
theorem NetPut.since {T : TypeId} {w w' : World} {o : Obj} {n : Nat} {M : Nat → Nat} (hp : NetPut T (w.alloc o) w' w.heap.size n M) : Below w.heap.size w w' :=
  ((Below.refl _ _).alloc (Nat.le_refl _) _).trans hp.below

/-! ### The laws' helpers, all in one form -/

/-- .. a slice of int64 of its own make. -/
def GaveRow (w : World) (xs : List Int) (e : Ending) (w' : World) : Prop :=
  ∃ n a c, e = .returned (.slice a n c) ∧ OwnRow 2 w' w.heap.size (.slice a n c) xs ∧ Below w.heap.size w w'
theorem toInt64S_gave (v : Value) (xs : List Int) (w : World) (h : RowAt w v xs) (hs : xs.length ≤ 1048576) : Calls Try.prog 15 #[v] w (GaveRow w xs) :=
  (toInt64S_any v xs w h hs).mono fun _ _ ⟨h1, h2, h3, _⟩ => ⟨_, _, _, h1, h2, h3⟩
theorem eqInt64S_b (v v' : Value) (xs ys : List Int) (w : World) (h : RowAt w v xs) (h' : RowAt w v' ys) :
    Calls Try.prog 18 #[v, v'] w fun e w' => e = .returned (.bool (decide (xs = ys))) ∧ Below w.heap.size w w' :=
  (eqInt64S_any v v' xs ys w h h').mono fun _ _ ⟨h1, h2⟩ => ⟨h1, h2.below _⟩
end Go.Proofs.Ytohjfcfcopbmoaa

/- Walks: EdgeIn. -/
namespace Go.Proofs.Ytohjfcfcopbmoaa
open Go.RowKit

set_option maxHeartbeats 400000 in
theorem l1There_any (v : Value) (L : List (List Int)) (u : Int) (w : World) (h : GridAt w v L) :
    Calls Try.prog 70 #[.agg #[v], .int .i64 u] w fun e w' => e = .returned (.bool (inB u 0 ((L.length : Int) - 1))) ∧ Below w.heap.size w w' := by
  have hl := h.len
  unfold maxLen at hl
  obtain ⟨a0, c0, rfl⟩ := h.slice
  have ha : Below w.heap.size w (w.alloc (.cells #[.slice a0 L.length c0] 37)) := (Below.refl _ _).alloc (Nat.le_refl _) _
  have hk := h.keep ha
  have HA := Lib.hid ha
  clear ha
  go_enter Try.func70, Try.ntmps70
  go_wp2_with fail
  refine (l1Size_any _ _ _ hk).mono ?_
  rintro e w1 ⟨rfl, hb1⟩
  have HB1 : Hid (Below w.heap.size w w1) := HA.out.trans (hb1.mono (by simp))
  clear hb1 hk h
  go_wp2_with fail
  refine (l1In_any _ _ _ _).mono ?_
  rintro e w' ⟨rfl, rfl⟩
  go_wp2
  go_ret
  exact ⟨rfl, HB1.out⟩

end Go.Proofs.Ytohjfcfcopbmoaa
