/-
  No cell of these rows narrows 'for every input' (looked for: loops, veiled, ifaces, maps, wideKeys, modest, calm, conditions, laid).
  DERIVED. THE GIVEN ROWS OF THIS SEAT. 4 by the template 'for every input the law returns true; each argument reads behind the call as it read before'; 0 by the template 'total and deterministic' (their statements: YtohjfcfcopbmoaaTotals.lean).
  GIVEN WITH THE SEED: the statements are not yours to turn. If you find one false, say at which input.
  Laid BY PROGRAM, IN A SANDBOX (cutbox-rows.mjs): the forced cells as the released guide's own fill.sh prints them over the translation 54c7b2c67815910a… (all of the seat's roots in one cut). By AI agents, Wed Nov 11 2026. No macro, syntax, notation, axiom, sorry.
-/
import Derived.Test.YtohjfcfcopbmoaaChecked
import GoSem.Claim
import GoSem.ClaimJoined
import GoSem.ClaimMapViews
import Derived.JoinedTies
import Derived.KernelRfl
namespace Go.Proofs.Ytohjfcfcopbmoaa
/- THE CELL 'sum', in the pinned program and in every row, IS THE sha256 OF THE DUMP (.gsa) THAT YtohjfcfcopbmoaaProg.lean LOADS. Nothing in Lean hashes anything: it is a label: what it is worth is what the hold of that sum in a sandbox is worth. -/
noncomputable def Try.pinned : Pinned := { name := "ytohjfcfcopbmoaa", sum := "54c7b2c67815910a311560a643e35eb68e1ae907dda5323c39eb25ba6f815e74", checked := Try.checked }
namespace Rows
def none {H : Type} : Left H := { results := [], args := [] }

/-- 'laws.FnExactWidthOf': WHATEVER THE INPUT: true; the input reads as it did. -/
def fnExactWidthOfSpec : ChangeSpec := { name := "fnExactWidthOf", fn := fun _ => fun
  | [d] => { results := [.lit (.bool true)], args := [d] }
  | _ => none }
def fnExactWidthOfRow : OpenClaim := { program := "ytohjfcfcopbmoaa", sum := "54c7b2c67815910a311560a643e35eb68e1ae907dda5323c39eb25ba6f815e74", func := "loop.example/g00871/laws.FnExactWidthOf", spec := "fnExactWidthOf", apart := false }
def FnExactWidthOfSaid : Prop := fnExactWidthOfRow.holds Try.pinned (OpenSpec.ofChange fnExactWidthOfSpec)

/-- ITS FALSE NEIGHBOUR: 'it returns false'. Refute it at one input. -/
def fnExactWidthOfWrong : ChangeSpec := { name := "fnExactWidthOf", fn := fun _ => fun
  | [d] => { results := [.lit (.bool false)], args := [d] }
  | _ => none }
def FnExactWidthOfWrongFalsely : Prop := fnExactWidthOfRow.holds Try.pinned (OpenSpec.ofChange fnExactWidthOfWrong)

/-- 'laws.FnExactDecompBy': WHATEVER THE INPUT: true; the input reads as it did. -/
def fnExactDecompBySpec : ChangeSpec := { name := "fnExactDecompBy", fn := fun _ => fun
  | [d1, d2] => { results := [.lit (.bool true)], args := [d1, d2] }
  | _ => none }
def fnExactDecompByRow : OpenClaim := { program := "ytohjfcfcopbmoaa", sum := "54c7b2c67815910a311560a643e35eb68e1ae907dda5323c39eb25ba6f815e74", func := "loop.example/g00871/laws.FnExactDecompBy", spec := "fnExactDecompBy", unfollowed := true, recurses := true, apart := false }
def FnExactDecompBySaid : Prop := fnExactDecompByRow.holds Try.pinned (OpenSpec.ofChange fnExactDecompBySpec)

/-- ITS FALSE NEIGHBOUR: 'it returns false'. Refute it at one input. -/
def fnExactDecompByWrong : ChangeSpec := { name := "fnExactDecompBy", fn := fun _ => fun
  | [d1, d2] => { results := [.lit (.bool false)], args := [d1, d2] }
  | _ => none }
def FnExactDecompByWrongFalsely : Prop := fnExactDecompByRow.holds Try.pinned (OpenSpec.ofChange fnExactDecompByWrong)

/-- 'laws.FnExactWaysIn': WHATEVER THE INPUT: true; the input reads as it did. -/
def fnExactWaysInSpec : ChangeSpec := { name := "fnExactWaysIn", fn := fun _ => fun
  | [d] => { results := [.lit (.bool true)], args := [d] }
  | _ => none }
def fnExactWaysInRow : OpenClaim := { program := "ytohjfcfcopbmoaa", sum := "54c7b2c67815910a311560a643e35eb68e1ae907dda5323c39eb25ba6f815e74", func := "loop.example/g00871/laws.FnExactWaysIn", spec := "fnExactWaysIn", apart := false }
def FnExactWaysInSaid : Prop := fnExactWaysInRow.holds Try.pinned (OpenSpec.ofChange fnExactWaysInSpec)

/-- ITS FALSE NEIGHBOUR: 'it returns false'. Refute it at one input. -/
def fnExactWaysInWrong : ChangeSpec := { name := "fnExactWaysIn", fn := fun _ => fun
  | [d] => { results := [.lit (.bool false)], args := [d] }
  | _ => none }
def FnExactWaysInWrongFalsely : Prop := fnExactWaysInRow.holds Try.pinned (OpenSpec.ofChange fnExactWaysInWrong)

/-- 'laws.FnExactMeetsOf': WHATEVER THE INPUT: true; the input reads as it did. -/
def fnExactMeetsOfSpec : ChangeSpec := { name := "fnExactMeetsOf", fn := fun _ => fun
  | [d] => { results := [.lit (.bool true)], args := [d] }
  | _ => none }
def fnExactMeetsOfRow : OpenClaim := { program := "ytohjfcfcopbmoaa", sum := "54c7b2c67815910a311560a643e35eb68e1ae907dda5323c39eb25ba6f815e74", func := "loop.example/g00871/laws.FnExactMeetsOf", spec := "fnExactMeetsOf", recurses := true, apart := false }
def FnExactMeetsOfSaid : Prop := fnExactMeetsOfRow.holds Try.pinned (OpenSpec.ofChange fnExactMeetsOfSpec)

/-- ITS FALSE NEIGHBOUR: 'it returns false'. Refute it at one input. -/
def fnExactMeetsOfWrong : ChangeSpec := { name := "fnExactMeetsOf", fn := fun _ => fun
  | [d] => { results := [.lit (.bool false)], args := [d] }
  | _ => none }
def FnExactMeetsOfWrongFalsely : Prop := fnExactMeetsOfRow.holds Try.pinned (OpenSpec.ofChange fnExactMeetsOfWrong)

/- THE SECOND FORM. 'bulk': how many values and letters a reading holds, each counted each time it is reached (what is shared counts as often as it is met; a slice's spare places count too). A statement '..UptoSaid' is the law's where the arguments, and the package variables that the reading takes, are together of bulk at most 1048576: NARROWER than '..Said'. Prove '..Said' where nothing that the law and all that it calls make is longer than what came in: it says more and counts as full. Else prove '..UptoSaid'. A law counts once. -/
mutual
def uptoBulk {H : Type} : DataW H → Nat
  | .lit (.string bytes) => bytes.length + 1
  | .lit _ => 1
  | .nil => 1
  | .ptr d => uptoBulk d + 1
  | .slice elems spare => uptoBulkAll elems + uptoBulkAll spare + 1
  | .agg parts => uptoBulkAll parts + 1
  | .iface _ d => uptoBulk d + 1
  | .map entries => uptoBulkEntries entries + 1
  | .held _ => 1
def uptoBulkAll {H : Type} : List (DataW H) → Nat
  | [] => 0
  | d :: r => uptoBulk d + uptoBulkAll r
def uptoBulkEntries {H : Type} : List (Lit × DataW H) → Nat
  | [] => 0
  | x :: r => uptoBulkEntry x + uptoBulkEntries r
def uptoBulkEntry {H : Type} : Lit × DataW H → Nat
  | (.string bytes, d) => bytes.length + uptoBulk d + 1
  | (_, d) => uptoBulk d + 1
 end
def uptoSmall : (H : Type) → List (DataW H) → Bool := fun _ ds => decide (uptoBulkAll ds ≤ 1048576)
def OpenSpec.upto (s : _root_.Go.ChangeSpec) : _root_.Go.OpenSpec := { _root_.Go.OpenSpec.ofChange s with cond := some uptoSmall }

/-- 'laws.FnExactWidthOf', WHERE WHAT IT READS IS OF BULK AT MOST 1048576: true; the input reads as it did. -/
def fnExactWidthOfUptoRow : OpenClaim := { program := "ytohjfcfcopbmoaa", sum := "54c7b2c67815910a311560a643e35eb68e1ae907dda5323c39eb25ba6f815e74", func := "loop.example/g00871/laws.FnExactWidthOf", spec := "fnExactWidthOf", apart := false, narrowed := true }
def FnExactWidthOfUptoSaid : Prop := fnExactWidthOfUptoRow.holds Try.pinned (OpenSpec.upto fnExactWidthOfSpec)

/-- 'laws.FnExactDecompBy', WHERE WHAT IT READS IS OF BULK AT MOST 1048576: true; the input reads as it did. -/
def fnExactDecompByUptoRow : OpenClaim := { program := "ytohjfcfcopbmoaa", sum := "54c7b2c67815910a311560a643e35eb68e1ae907dda5323c39eb25ba6f815e74", func := "loop.example/g00871/laws.FnExactDecompBy", spec := "fnExactDecompBy", unfollowed := true, recurses := true, apart := false, narrowed := true }
def FnExactDecompByUptoSaid : Prop := fnExactDecompByUptoRow.holds Try.pinned (OpenSpec.upto fnExactDecompBySpec)

/-- 'laws.FnExactWaysIn', WHERE WHAT IT READS IS OF BULK AT MOST 1048576: true; the input reads as it did. -/
def fnExactWaysInUptoRow : OpenClaim := { program := "ytohjfcfcopbmoaa", sum := "54c7b2c67815910a311560a643e35eb68e1ae907dda5323c39eb25ba6f815e74", func := "loop.example/g00871/laws.FnExactWaysIn", spec := "fnExactWaysIn", apart := false, narrowed := true }
def FnExactWaysInUptoSaid : Prop := fnExactWaysInUptoRow.holds Try.pinned (OpenSpec.upto fnExactWaysInSpec)

/-- 'laws.FnExactMeetsOf', WHERE WHAT IT READS IS OF BULK AT MOST 1048576: true; the input reads as it did. -/
def fnExactMeetsOfUptoRow : OpenClaim := { program := "ytohjfcfcopbmoaa", sum := "54c7b2c67815910a311560a643e35eb68e1ae907dda5323c39eb25ba6f815e74", func := "loop.example/g00871/laws.FnExactMeetsOf", spec := "fnExactMeetsOf", recurses := true, apart := false, narrowed := true }
def FnExactMeetsOfUptoSaid : Prop := fnExactMeetsOfUptoRow.holds Try.pinned (OpenSpec.upto fnExactMeetsOfSpec)

end Rows
end Go.Proofs.Ytohjfcfcopbmoaa
