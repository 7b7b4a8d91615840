/- Walks: PerfectOrder and ChordalIn of the model. -/
import Derived.Test.YtohjfcfcopbmoaaQEO1
import Derived.Test.YtohjfcfcopbmoaaEL4
import Derived.Test.YtohjfcfcopbmoaaM6
import Derived.Test.YtohjfcfcopbmoaaE3
import Derived.Deep.RegionHeld3
import Derived.Test.YtohjfcfcopbmoaaQM1
import Derived.Test.YtohjfcfcopbmoaaQLater
import Derived.Test.YtohjfcfcopbmoaaQEL1

namespace Go.Proofs.Ytohjfcfcopbmoaa
open Go.RowKit

/-- At work: who has gone, the list so far. -/
structure PoW (w1 : World) (n : Nat) (ys : List Int) (ov : Value) (w : World) : Prop where
  gone : w.rowIs w1.heap.size 4 n (fun i => .bool (hasB ys (i : Int)))
  out : OwnRow 2 w (w1.heap.size + 1) ov ys
  bel : Below w1.heap.size w1 w
theorem PoW.keep {w1 : World} {n : Nat} {ys : List Int} {ov : Value} {w w' : World} (h : PoW w1 n ys ov w) (hb : Below w.heap.size w w') : PoW w1 n ys ov w' :=
  ⟨rowIs_below h.gone hb, h.out.keep hb, h.bel.trans (hb.mono h.bel.size)⟩
theorem PoW.flag {w1 : World} {n : Nat} {ys : List Int} {ov : Value} {w : World} (h : PoW w1 n ys ov w) (q : Nat) : (w.setCell ⟨w1.heap.size, q, none⟩ (.bool true)).rowIs w1.heap.size 4 n (fun i => .bool (hasB (ys ++ [(q : Int)]) (i : Int))) ∧ OwnRow 2 (w.setCell ⟨w1.heap.size, q, none⟩ (.bool true)) (w1.heap.size + 1) ov ys ∧ Below w1.heap.size w1 (w.setCell ⟨w1.heap.size, q, none⟩ (.bool true)) := by
  refine ⟨(h.gone.set q (.bool true)).congr (fun i _ => ?_), h.out.setBelow (by simp) _, h.bel.setCell (Nat.le_refl _) _⟩
  rw [← hasB_more]
  by_cases e : i = q
  · rw [if_pos e, if_pos e]
  · rw [if_neg e, if_neg e]
end Go.Proofs.Ytohjfcfcopbmoaa
