/- What the row's condition on the library's table gives; the witness. -/
import Derived.Test.YtjbfoiolcpigfaaDoorRows
import Derived.Test.YtjbfoiolcpigfaaDoorTie
import Derived.Test.YtjbfoiolcpigfaaDoorCards
import Derived.Test.YtjbfoiolcpigfaaDoorQFrame
import Derived.Test.YtjbfoiolcpigfaaDoorQY1
import Derived.LaidMore
import Derived.Stop.Joined
import Derived.Lib.LaidTab
import Derived.SevenTiedAt

namespace Go.Proofs.YtjbfoiolcpigfaaDoor
open Go.ChangeShapes Go.WideShapes Go.ChangeAt Go.RowKit

/-- The list of the rows. -/
abbrev laidL : List (String × DataW Unit) := [("math/bits.deBruijn32tab", Rows.laid_math_bits_deBruijn32tab)]
theorem gTab : Tryd.prog.globalNamed "math/bits.deBruijn32tab" = some 0 := by kernel_rfl
theorem gTabT : (Tryd.prog.globals[0]?).map (·.type) = some 133 := by kernel_rfl
theorem tabA : Tryd.prog.underlying 133 = some (.array 32 5) := by kernel_rfl
theorem tabE : Tryd.prog.underlying 5 = some (.int .u8) := by kernel_rfl
theorem tabC : Tryd.prog.cellsOf 5 = 1 := by kernel_rfl
theorem tabN : Tryd.prog.cellsOf 133 = 32 := by kernel_rfl

theorem door_met (os : Os) (args : Array Value) : laidMetH Tryd.prog laidL ((World.doorLaid Tryd.prog 400 os).forCall (fun _ _ => 0) ⟨#[], args, []⟩).memory :=
  laidMetH_of_parts3 (fuel := 8) (laidMet_of_run' 8 (by kernel_rfl) (by kernel_rfl)) (by kernel_rfl) (by kernel_rfl)

theorem tab_of_laid {W : World} (h : laidMetH Tryd.prog laidL W) : TabAt W := by
  rw [MakeChecks.laidMetH_plain _ _ _ (by kernel_rfl)] at h
  have h2 : laidMet Tryd.prog [("math/bits.deBruijn32tab", Lib.tabData .u8 (Lib.deBruijn32tab.map (fun z : Nat => (z : Int))))] W := h
  have hT := Lib.tabIs_of_head gTab gTabT tabA tabE tabC tabN h2
  intro i hi
  have := hT.cell gTab i (by rw [List.length_map]; exact hi)
  rw [this]
  congr 2
  simp [List.getD_eq_getElem?_getD, hi]

end Go.Proofs.YtjbfoiolcpigfaaDoor
