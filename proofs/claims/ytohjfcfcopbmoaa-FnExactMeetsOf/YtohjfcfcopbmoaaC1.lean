/- Walks: the program's GraphOk; the laws' helpers in one form. -/
import Derived.Test.YtohjfcfcopbmoaaQB4
import Derived.Deep.RegionHeld3

namespace Go.Proofs.Ytohjfcfcopbmoaa
open Go.RowKit

/-- A new box for a net, and a net stored into it: nothing that was there has turned. -/
theorem NetPut.since {T : TypeId} {w w' : World} {o : Obj} {n : Nat} {M : Nat → Nat} (hp : NetPut T (w.alloc o) w' w.heap.size n M) : Below w.heap.size w w' :=
  ((Below.refl _ _).alloc (Nat.le_refl _) _).trans hp.below

/-! ### The laws' helpers, all in one form -/

/-- .. a slice of int64 of its own make. -/
def GaveRow (w : World) (xs : List Int) (e : Ending) (w' : World) : Prop :=
  ∃ n a c, e = .returned (.slice a n c) ∧ OwnRow 2 w' w.heap.size (.slice a n c) xs ∧ Below w.heap.size w w'
theorem eqInt64SS_b (v v' : Value) (xs ys : List (List Int)) (w : World) (h : GridAt w v xs) (h' : GridAt w v' ys) :
    Calls Try.prog 27 #[v, v'] w fun e w' => e = .returned (.bool (decide (xs = ys))) ∧ Below w.heap.size w w' :=
  (eqInt64SS_any v v' xs ys w h h').mono fun _ _ ⟨h1, h2⟩ => ⟨h1, h2.below _⟩
end Go.Proofs.Ytohjfcfcopbmoaa
