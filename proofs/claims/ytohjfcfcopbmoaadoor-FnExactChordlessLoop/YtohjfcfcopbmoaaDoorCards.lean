/-
  DERIVED. GIVEN WITH THE SEED: THE CARDS: each row of YtohjfcfcopbmoaaDoorRows.lean that lists a variable, with what it lists TIED to the program's text (the seventh form; the later family's looks); each row that meets fmt, with fmt's text TOLD by the authors' own Lean function (tested against real Go, not proved from fmt's source: count such statements apart). THE CARD IS WHAT COUNTS. Prove the row's statement (the work); the ties are given (YtohjfcfcopbmoaaDoorTie.lean); close each card by the builder's one call (the guide's Derived/Test/ToyasCard.lean, 'card_holds'). Laid BY PROGRAM, IN A SANDBOX (cutbox-door.mjs). By AI agents, Wed Nov 11 2026. No macro, syntax, notation, axiom, sorry.
-/
import Derived.Test.YtohjfcfcopbmoaaDoorRows
import GoSem.ClaimSeven
namespace Go.Proofs.YtohjfcfcopbmoaaDoor
namespace Rows

/-- THE TIED CARD OF 'laws.FnExactChordlessLoop'. -/
def fnExactChordlessLoopCard : Claim7 := { stood := { row := fnExactChordlessLoopRow, standIns := [], harness := (true, "1e3cb916afdba2a12882f299b5c1039570e2712269fbbd5c1dd0735e30d02dd0"), looks := false }, kinds := [], alts := [], laidByText := true, laidKinds := [.data], laidTests := true, laidLooks := .later }
def FnExactChordlessLoopCardSaid : Prop := Claim7.holds Tryd.pinned (.plain (OpenSpec.ofChange fnExactChordlessLoopSpec)) fnExactChordlessLoopCard

/-- THE TIED CARD OF 'laws.FnExactDecompOk'. -/
def fnExactDecompOkCard : Claim7 := { stood := { row := fnExactDecompOkRow, standIns := [], harness := (true, "1e3cb916afdba2a12882f299b5c1039570e2712269fbbd5c1dd0735e30d02dd0"), looks := false }, kinds := [], alts := [], laidByText := true, laidKinds := [.data], laidTests := true, laidLooks := .later }
def FnExactDecompOkCardSaid : Prop := Claim7.holds Tryd.pinned (.plain (OpenSpec.ofChange fnExactDecompOkSpec)) fnExactDecompOkCard

/-- THE SECOND FORM's CARD OF 'laws.FnExactChordlessLoop'. -/
def fnExactChordlessLoopUptoCard : Claim7 := { stood := { row := fnExactChordlessLoopUptoRow, standIns := [], harness := (true, "1e3cb916afdba2a12882f299b5c1039570e2712269fbbd5c1dd0735e30d02dd0"), looks := false }, kinds := [], alts := [], laidByText := true, laidKinds := [.data], laidTests := true, laidLooks := .later }
def FnExactChordlessLoopUptoCardSaid : Prop := Claim7.holds Tryd.pinned (.plain (OpenSpec.upto fnExactChordlessLoopSpec)) fnExactChordlessLoopUptoCard

/-- THE SECOND FORM's CARD OF 'laws.FnExactDecompOk'. -/
def fnExactDecompOkUptoCard : Claim7 := { stood := { row := fnExactDecompOkUptoRow, standIns := [], harness := (true, "1e3cb916afdba2a12882f299b5c1039570e2712269fbbd5c1dd0735e30d02dd0"), looks := false }, kinds := [], alts := [], laidByText := true, laidKinds := [.data], laidTests := true, laidLooks := .later }
def FnExactDecompOkUptoCardSaid : Prop := Claim7.holds Tryd.pinned (.plain (OpenSpec.upto fnExactDecompOkSpec)) fnExactDecompOkUptoCard
end Rows
end Go.Proofs.YtohjfcfcopbmoaaDoor
