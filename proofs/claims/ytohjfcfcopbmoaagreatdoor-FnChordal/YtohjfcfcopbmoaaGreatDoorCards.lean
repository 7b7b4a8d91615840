/-
  DERIVED. GIVEN WITH THE SEED: THE CARDS: each row of YtohjfcfcopbmoaaGreatDoorRows.lean that lists a variable, with what it lists TIED to the program's text (the seventh form; the later family's looks); each row that meets fmt, with fmt's text TOLD by the authors' own Lean function (tested against real Go, not proved from fmt's source: count such statements apart). THE CARD IS WHAT COUNTS. Prove the row's statement (the work); the ties are given (YtohjfcfcopbmoaaGreatDoorTie.lean); close each card by the builder's one call (the guide's Derived/Test/ToyasCard.lean, 'card_holds'). Laid BY PROGRAM, IN A SANDBOX (cutbox-door.mjs). By AI agents, Wed Nov 11 2026. No macro, syntax, notation, axiom, sorry.
-/
import Derived.Test.YtohjfcfcopbmoaaGreatDoorRows
import GoSem.ClaimSeven
namespace Go.Proofs.YtohjfcfcopbmoaaGreatDoor
namespace Rows

/-- THE TIED CARD OF 'laws.FnGraphTexts'. -/
def fnGraphTextsCard : Claim7 := { stood := { row := fnGraphTextsRow, standIns := [], harness := (true, "96cf17d8b54ac38b6c1cca149df614dcf1ef4c68c8466f62e3143ce65fbca34d"), looks := true }, kinds := [], alts := [], laidByText := true, laidKinds := [.data, .data, .data, .data, .sentinel, .sentinel, .pinned], laidTests := true, laidLooks := .later }
def FnGraphTextsCardSaid : Prop := Claim7.holds Tryz.pinned (.plain (OpenSpec.ofChange fnGraphTextsSpec)) fnGraphTextsCard

/-- THE TIED CARD OF 'laws.FnChordal'. -/
def fnChordalCard : Claim7 := { stood := { row := fnChordalRow, standIns := [], harness := (true, "96cf17d8b54ac38b6c1cca149df614dcf1ef4c68c8466f62e3143ce65fbca34d"), looks := true }, kinds := [], alts := [], laidByText := true, laidKinds := [.data], laidTests := true, laidLooks := .later }
def FnChordalCardSaid : Prop := Claim7.holds Tryz.pinned (.plain (OpenSpec.ofChange fnChordalSpec)) fnChordalCard

/-- THE TIED CARD OF 'laws.FnBags'. -/
def fnBagsCard : Claim7 := { stood := { row := fnBagsRow, standIns := [], harness := (true, "96cf17d8b54ac38b6c1cca149df614dcf1ef4c68c8466f62e3143ce65fbca34d"), looks := true }, kinds := [], alts := [], laidByText := true, laidKinds := [.data], laidTests := true, laidLooks := .later }
def FnBagsCardSaid : Prop := Claim7.holds Tryz.pinned (.plain (OpenSpec.ofChange fnBagsSpec)) fnBagsCard

/-- THE TIED CARD OF 'laws.FnCliqueTree'. -/
def fnCliqueTreeCard : Claim7 := { stood := { row := fnCliqueTreeRow, standIns := [], harness := (true, "96cf17d8b54ac38b6c1cca149df614dcf1ef4c68c8466f62e3143ce65fbca34d"), looks := true }, kinds := [], alts := [], laidByText := true, laidKinds := [.data], laidTests := true, laidLooks := .later }
def FnCliqueTreeCardSaid : Prop := Claim7.holds Tryz.pinned (.plain (OpenSpec.ofChange fnCliqueTreeSpec)) fnCliqueTreeCard

/-- THE TIED CARD OF 'laws.FnExactTextGraph'. -/
def fnExactTextGraphCard : Claim7 := { stood := { row := fnExactTextGraphRow, standIns := [], harness := (true, "96cf17d8b54ac38b6c1cca149df614dcf1ef4c68c8466f62e3143ce65fbca34d"), looks := true }, kinds := [], alts := [], laidByText := true, laidKinds := [.data, .data, .data, .data, .sentinel, .sentinel, .pinned], laidTests := true, laidLooks := .later }
def FnExactTextGraphCardSaid : Prop := Claim7.holds Tryz.pinned (.plain (OpenSpec.ofChange fnExactTextGraphSpec)) fnExactTextGraphCard

/-- THE TIED CARD OF 'laws.FnExactTidiedDecomp'. -/
def fnExactTidiedDecompCard : Claim7 := { stood := { row := fnExactTidiedDecompRow, standIns := [], harness := (true, "96cf17d8b54ac38b6c1cca149df614dcf1ef4c68c8466f62e3143ce65fbca34d"), looks := true }, kinds := [], alts := [], laidByText := true, laidKinds := [.data], laidTests := true, laidLooks := .later }
def FnExactTidiedDecompCardSaid : Prop := Claim7.holds Tryz.pinned (.plain (OpenSpec.ofChange fnExactTidiedDecompSpec)) fnExactTidiedDecompCard

/-- THE TIED CARD OF 'laws.FnExactOrderBy'. -/
def fnExactOrderByCard : Claim7 := { stood := { row := fnExactOrderByRow, standIns := [], harness := (true, "96cf17d8b54ac38b6c1cca149df614dcf1ef4c68c8466f62e3143ce65fbca34d"), looks := true }, kinds := [], alts := [], laidByText := true, laidKinds := [.data], laidTests := true, laidLooks := .later }
def FnExactOrderByCardSaid : Prop := Claim7.holds Tryz.pinned (.plain (OpenSpec.ofChange fnExactOrderBySpec)) fnExactOrderByCard

/-- THE TIED CARD OF 'laws.FnExactCliqueTree'. -/
def fnExactCliqueTreeCard : Claim7 := { stood := { row := fnExactCliqueTreeRow, standIns := [], harness := (true, "96cf17d8b54ac38b6c1cca149df614dcf1ef4c68c8466f62e3143ce65fbca34d"), looks := true }, kinds := [], alts := [], laidByText := true, laidKinds := [.data], laidTests := true, laidLooks := .later }
def FnExactCliqueTreeCardSaid : Prop := Claim7.holds Tryz.pinned (.plain (OpenSpec.ofChange fnExactCliqueTreeSpec)) fnExactCliqueTreeCard

/-- THE SECOND FORM's CARD OF 'laws.FnGraphTexts'. -/
def fnGraphTextsUptoCard : Claim7 := { stood := { row := fnGraphTextsUptoRow, standIns := [], harness := (true, "96cf17d8b54ac38b6c1cca149df614dcf1ef4c68c8466f62e3143ce65fbca34d"), looks := true }, kinds := [], alts := [], laidByText := true, laidKinds := [.data, .data, .data, .data, .sentinel, .sentinel, .pinned], laidTests := true, laidLooks := .later }
def FnGraphTextsUptoCardSaid : Prop := Claim7.holds Tryz.pinned (.plain (OpenSpec.upto fnGraphTextsSpec)) fnGraphTextsUptoCard

/-- THE SECOND FORM's CARD OF 'laws.FnChordal'. -/
def fnChordalUptoCard : Claim7 := { stood := { row := fnChordalUptoRow, standIns := [], harness := (true, "96cf17d8b54ac38b6c1cca149df614dcf1ef4c68c8466f62e3143ce65fbca34d"), looks := true }, kinds := [], alts := [], laidByText := true, laidKinds := [.data], laidTests := true, laidLooks := .later }
def FnChordalUptoCardSaid : Prop := Claim7.holds Tryz.pinned (.plain (OpenSpec.upto fnChordalSpec)) fnChordalUptoCard

/-- THE SECOND FORM's CARD OF 'laws.FnBags'. -/
def fnBagsUptoCard : Claim7 := { stood := { row := fnBagsUptoRow, standIns := [], harness := (true, "96cf17d8b54ac38b6c1cca149df614dcf1ef4c68c8466f62e3143ce65fbca34d"), looks := true }, kinds := [], alts := [], laidByText := true, laidKinds := [.data], laidTests := true, laidLooks := .later }
def FnBagsUptoCardSaid : Prop := Claim7.holds Tryz.pinned (.plain (OpenSpec.upto fnBagsSpec)) fnBagsUptoCard

/-- THE SECOND FORM's CARD OF 'laws.FnCliqueTree'. -/
def fnCliqueTreeUptoCard : Claim7 := { stood := { row := fnCliqueTreeUptoRow, standIns := [], harness := (true, "96cf17d8b54ac38b6c1cca149df614dcf1ef4c68c8466f62e3143ce65fbca34d"), looks := true }, kinds := [], alts := [], laidByText := true, laidKinds := [.data], laidTests := true, laidLooks := .later }
def FnCliqueTreeUptoCardSaid : Prop := Claim7.holds Tryz.pinned (.plain (OpenSpec.upto fnCliqueTreeSpec)) fnCliqueTreeUptoCard

/-- THE SECOND FORM's CARD OF 'laws.FnExactTextGraph'. -/
def fnExactTextGraphUptoCard : Claim7 := { stood := { row := fnExactTextGraphUptoRow, standIns := [], harness := (true, "96cf17d8b54ac38b6c1cca149df614dcf1ef4c68c8466f62e3143ce65fbca34d"), looks := true }, kinds := [], alts := [], laidByText := true, laidKinds := [.data, .data, .data, .data, .sentinel, .sentinel, .pinned], laidTests := true, laidLooks := .later }
def FnExactTextGraphUptoCardSaid : Prop := Claim7.holds Tryz.pinned (.plain (OpenSpec.upto fnExactTextGraphSpec)) fnExactTextGraphUptoCard

/-- THE SECOND FORM's CARD OF 'laws.FnExactTidiedDecomp'. -/
def fnExactTidiedDecompUptoCard : Claim7 := { stood := { row := fnExactTidiedDecompUptoRow, standIns := [], harness := (true, "96cf17d8b54ac38b6c1cca149df614dcf1ef4c68c8466f62e3143ce65fbca34d"), looks := true }, kinds := [], alts := [], laidByText := true, laidKinds := [.data], laidTests := true, laidLooks := .later }
def FnExactTidiedDecompUptoCardSaid : Prop := Claim7.holds Tryz.pinned (.plain (OpenSpec.upto fnExactTidiedDecompSpec)) fnExactTidiedDecompUptoCard

/-- THE SECOND FORM's CARD OF 'laws.FnExactOrderBy'. -/
def fnExactOrderByUptoCard : Claim7 := { stood := { row := fnExactOrderByUptoRow, standIns := [], harness := (true, "96cf17d8b54ac38b6c1cca149df614dcf1ef4c68c8466f62e3143ce65fbca34d"), looks := true }, kinds := [], alts := [], laidByText := true, laidKinds := [.data], laidTests := true, laidLooks := .later }
def FnExactOrderByUptoCardSaid : Prop := Claim7.holds Tryz.pinned (.plain (OpenSpec.upto fnExactOrderBySpec)) fnExactOrderByUptoCard

/-- THE SECOND FORM's CARD OF 'laws.FnExactCliqueTree'. -/
def fnExactCliqueTreeUptoCard : Claim7 := { stood := { row := fnExactCliqueTreeUptoRow, standIns := [], harness := (true, "96cf17d8b54ac38b6c1cca149df614dcf1ef4c68c8466f62e3143ce65fbca34d"), looks := true }, kinds := [], alts := [], laidByText := true, laidKinds := [.data], laidTests := true, laidLooks := .later }
def FnExactCliqueTreeUptoCardSaid : Prop := Claim7.holds Tryz.pinned (.plain (OpenSpec.upto fnExactCliqueTreeSpec)) fnExactCliqueTreeUptoCard
end Rows
end Go.Proofs.YtohjfcfcopbmoaaGreatDoor
