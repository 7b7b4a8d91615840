/- What a row's form reads as data, of type laws.Decomp, to our words: two slices of slices. -/
import Derived.Test.YtohjfcfcopbmoaaFrame
import Derived.Lib.SmallJoins

namespace Go.Proofs.Ytohjfcfcopbmoaa
open Go.ChangeShapes Go.WideShapes Go.ChangeAt Go.RowKit Go.Deep

theorem Try.cellsDec : Try.prog.cellsOf 24 = 2 := by kernel_rfl

set_option maxRecDepth 100000 in
/-- An argument of type laws.Decomp, opened. -/
theorem open_decomp {H : Type} {enc : TypeId × Value → H} {W : World} {b0 : Nat} {v : Value} {d : DataW H} {p : List MemPlace} (hv : Value.okWide Try.prog W .any b0 24 v) (h : DataW.Trod enc Try.prog W 0 (fun _ => true) true 24 v d p) :
    ∃ g k L K, v = .agg #[g, k] ∧ GridAt W g L ∧ GridAt W k K := by
  obtain ⟨g, k, y0, y1, n, rfl, -, -, h0, h1⟩ := Go.Joins.open_agg2 Try.underlying24 (by kernel_rfl) Try.cellsDec hv h
  obtain ⟨L, hL⟩ := grid_of_trod Try.underlying22 Try.underlying33 Try.underlying2 Try.cells34 Try.cells2 h0
  obtain ⟨K, hK⟩ := grid_of_trod Try.underlying22 Try.underlying33 Try.underlying2 Try.cells34 Try.cells2 h1
  exact ⟨g, k, L, K, rfl, hL, hK⟩

end Go.Proofs.Ytohjfcfcopbmoaa
