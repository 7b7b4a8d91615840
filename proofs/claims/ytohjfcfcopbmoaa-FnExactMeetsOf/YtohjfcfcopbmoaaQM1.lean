/- The texts M1, M2, joined. -/
import Derived.Test.YtohjfcfcopbmoaaG1
import Derived.Test.YtohjfcfcopbmoaaQGrid
import Derived.Test.YtohjfcfcopbmoaaE1
import Derived.Test.YtohjfcfcopbmoaaC1

/- Plain facts: graphs by who is near whom. -/
namespace Go.Proofs.Ytohjfcfcopbmoaa
open Go.RowKit

/-- The mask of the numbers below k of which p holds. -/
def pmTo (p : Nat → Bool) : Nat → Nat
  | 0 => 0
  | k + 1 => if p k then pmTo p k ||| 2 ^ k else pmTo p k
/-- .. below 16. -/
def pm (p : Nat → Bool) : Nat := pmTo p 16
/-- The lists of n vertices by who is near whom. -/
def adjL (n : Nat) (A : Nat → Nat → Bool) : List (List Int) := maskL n (fun i => pm (A i))
/-- A call has handed back a graph of its own make, and a bool. -/
def GaveGB (w : World) (R : List (List Int)) (ok : Bool) (e : Ending) (w' : World) : Prop :=
  ∃ m a c, e = .returned (.tuple #[.agg #[.slice a m c], .bool ok]) ∧ OwnGrid 2 33 w' w.heap.size (.slice a m c) R ∧ Below w.heap.size w w'
theorem GaveGB.no {w : World} {w' : World} (hb : Below w.heap.size w w') : GaveGB w [] false (.returned (.tuple #[.agg #[.slice none 0 0], .bool false])) w' :=
  ⟨0, none, 0, rfl, own_nil _ _, hb⟩

end Go.Proofs.Ytohjfcfcopbmoaa

/- Walks: the model's complement. -/
namespace Go.Proofs.Ytohjfcfcopbmoaa
open Go.RowKit

/-- The boxes of a model's function at work: its graph's, its result's, and that of the graph which it makes. -/
structure Work (w0 : World) (b0 : Nat) (v : Value) (bo n B : Nat) (A : Nat → Nat → Bool) (w : World) : Prop where
  arg : BoxAt w b0 v
  res : BoxAt w (b0 + 1) (.slice none 0 0)
  out : ∃ a c, BoxT 37 w bo (.slice a n c) ∧ OwnGrid 2 33 w B (.slice a n c) (adjL n A)
  bel : Below b0 w0 w
theorem Work.keep {w0 : World} {b0 : Nat} {v : Value} {bo n B : Nat} {A : Nat → Nat → Bool} {w w' : World} (h : Work w0 b0 v bo n B A w) (hb : Below w.heap.size w w') : Work w0 b0 v bo n B A w' := by
  obtain ⟨h1, h2, ⟨a, c, h3, h4⟩, h5⟩ := h
  exact ⟨h1.keep hb, h2.keep hb, ⟨a, c, h3.keep hb, h4.keep hb⟩, h5.trans (hb.mono (Nat.le_of_lt h1.lt))⟩
theorem Work.congr {w0 : World} {b0 : Nat} {v : Value} {bo n B : Nat} {A A' : Nat → Nat → Bool} {w : World} (h : Work w0 b0 v bo n B A w) (e : ∀ i j, A i j = A' i j) : Work w0 b0 v bo n B A' w := by
  obtain rfl : A = A' := by funext i j; exact e i j
  exact h

end Go.Proofs.Ytohjfcfcopbmoaa
