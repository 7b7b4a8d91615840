/-
  No cell of these rows narrows 'for every input' (looked for: loops, veiled, ifaces, maps, wideKeys, modest, calm, conditions, laid).
  DERIVED. THE GIVEN ROWS OF THIS SEAT. 10 by the template 'for every input the law returns true; each argument reads behind the call as it read before'; 0 by the template 'total and deterministic' (their statements: YtmfolclpddoplaaTotals.lean).
  GIVEN WITH THE SEED: the statements are not yours to turn. If you find one false, say at which input.
  Laid BY PROGRAM, IN A SANDBOX (cutbox-rows.mjs): the forced cells as the released guide's own fill.sh prints them over the translation c054af78fb97bda6… (all of the seat's roots in one cut). By AI agents, Wed Nov 11 2026. No macro, syntax, notation, axiom, sorry.
-/
import Derived.Test.YtmfolclpddoplaaChecked
import GoSem.Claim
import GoSem.ClaimJoined
import GoSem.ClaimMapViews
import Derived.JoinedTies
import Derived.KernelRfl
namespace Go.Proofs.Ytmfolclpddoplaa
/- THE CELL 'sum', in the pinned program and in every row, IS THE sha256 OF THE DUMP (.gsa) THAT YtmfolclpddoplaaProg.lean LOADS. Nothing in Lean hashes anything: it is a label: what it is worth is what the hold of that sum in a sandbox is worth. -/
noncomputable def Try.pinned : Pinned := { name := "ytmfolclpddoplaa", sum := "c054af78fb97bda668aa00ede0e10f680df666eb08cddf9ad2b46553b1ec4535", checked := Try.checked }
namespace Rows
def none {H : Type} : Left H := { results := [], args := [] }

/-- 'laws.FnOrders': WHATEVER THE INPUT: true; the input reads as it did. -/
def fnOrdersSpec : ChangeSpec := { name := "fnOrders", fn := fun _ => fun
  | [d] => { results := [.lit (.bool true)], args := [d] }
  | _ => none }
def fnOrdersRow : OpenClaim := { program := "ytmfolclpddoplaa", sum := "c054af78fb97bda668aa00ede0e10f680df666eb08cddf9ad2b46553b1ec4535", func := "loop.example/g00871/laws.FnOrders", spec := "fnOrders", unfollowed := true, recurses := true, apart := false }
def FnOrdersSaid : Prop := fnOrdersRow.holds Try.pinned (OpenSpec.ofChange fnOrdersSpec)

/-- ITS FALSE NEIGHBOUR: 'it returns false'. Refute it at one input. -/
def fnOrdersWrong : ChangeSpec := { name := "fnOrders", fn := fun _ => fun
  | [d] => { results := [.lit (.bool false)], args := [d] }
  | _ => none }
def FnOrdersWrongFalsely : Prop := fnOrdersRow.holds Try.pinned (OpenSpec.ofChange fnOrdersWrong)

/-- 'laws.FnCliques': WHATEVER THE INPUT: true; the input reads as it did. -/
def fnCliquesSpec : ChangeSpec := { name := "fnCliques", fn := fun _ => fun
  | [d] => { results := [.lit (.bool true)], args := [d] }
  | _ => none }
def fnCliquesRow : OpenClaim := { program := "ytmfolclpddoplaa", sum := "c054af78fb97bda668aa00ede0e10f680df666eb08cddf9ad2b46553b1ec4535", func := "loop.example/g00871/laws.FnCliques", spec := "fnCliques", unfollowed := true, recurses := true, apart := false }
def FnCliquesSaid : Prop := fnCliquesRow.holds Try.pinned (OpenSpec.ofChange fnCliquesSpec)

/-- ITS FALSE NEIGHBOUR: 'it returns false'. Refute it at one input. -/
def fnCliquesWrong : ChangeSpec := { name := "fnCliques", fn := fun _ => fun
  | [d] => { results := [.lit (.bool false)], args := [d] }
  | _ => none }
def FnCliquesWrongFalsely : Prop := fnCliquesRow.holds Try.pinned (OpenSpec.ofChange fnCliquesWrong)

/-- 'laws.FnExactByDegree': WHATEVER THE INPUT: true; the input reads as it did. -/
def fnExactByDegreeSpec : ChangeSpec := { name := "fnExactByDegree", fn := fun _ => fun
  | [d] => { results := [.lit (.bool true)], args := [d] }
  | _ => none }
def fnExactByDegreeRow : OpenClaim := { program := "ytmfolclpddoplaa", sum := "c054af78fb97bda668aa00ede0e10f680df666eb08cddf9ad2b46553b1ec4535", func := "loop.example/g00871/laws.FnExactByDegree", spec := "fnExactByDegree", unfollowed := true, recurses := true, apart := false }
def FnExactByDegreeSaid : Prop := fnExactByDegreeRow.holds Try.pinned (OpenSpec.ofChange fnExactByDegreeSpec)

/-- ITS FALSE NEIGHBOUR: 'it returns false'. Refute it at one input. -/
def fnExactByDegreeWrong : ChangeSpec := { name := "fnExactByDegree", fn := fun _ => fun
  | [d] => { results := [.lit (.bool false)], args := [d] }
  | _ => none }
def FnExactByDegreeWrongFalsely : Prop := fnExactByDegreeRow.holds Try.pinned (OpenSpec.ofChange fnExactByDegreeWrong)

/-- 'laws.FnExactByFill': WHATEVER THE INPUT: true; the input reads as it did. -/
def fnExactByFillSpec : ChangeSpec := { name := "fnExactByFill", fn := fun _ => fun
  | [d] => { results := [.lit (.bool true)], args := [d] }
  | _ => none }
def fnExactByFillRow : OpenClaim := { program := "ytmfolclpddoplaa", sum := "c054af78fb97bda668aa00ede0e10f680df666eb08cddf9ad2b46553b1ec4535", func := "loop.example/g00871/laws.FnExactByFill", spec := "fnExactByFill", unfollowed := true, recurses := true, apart := false }
def FnExactByFillSaid : Prop := fnExactByFillRow.holds Try.pinned (OpenSpec.ofChange fnExactByFillSpec)

/-- ITS FALSE NEIGHBOUR: 'it returns false'. Refute it at one input. -/
def fnExactByFillWrong : ChangeSpec := { name := "fnExactByFill", fn := fun _ => fun
  | [d] => { results := [.lit (.bool false)], args := [d] }
  | _ => none }
def FnExactByFillWrongFalsely : Prop := fnExactByFillRow.holds Try.pinned (OpenSpec.ofChange fnExactByFillWrong)

/-- 'laws.FnExactChordalIn': WHATEVER THE INPUT: true; the input reads as it did. -/
def fnExactChordalInSpec : ChangeSpec := { name := "fnExactChordalIn", fn := fun _ => fun
  | [d] => { results := [.lit (.bool true)], args := [d] }
  | _ => none }
def fnExactChordalInRow : OpenClaim := { program := "ytmfolclpddoplaa", sum := "c054af78fb97bda668aa00ede0e10f680df666eb08cddf9ad2b46553b1ec4535", func := "loop.example/g00871/laws.FnExactChordalIn", spec := "fnExactChordalIn", unfollowed := true, recurses := true, apart := false }
def FnExactChordalInSaid : Prop := fnExactChordalInRow.holds Try.pinned (OpenSpec.ofChange fnExactChordalInSpec)

/-- ITS FALSE NEIGHBOUR: 'it returns false'. Refute it at one input. -/
def fnExactChordalInWrong : ChangeSpec := { name := "fnExactChordalIn", fn := fun _ => fun
  | [d] => { results := [.lit (.bool false)], args := [d] }
  | _ => none }
def FnExactChordalInWrongFalsely : Prop := fnExactChordalInRow.holds Try.pinned (OpenSpec.ofChange fnExactChordalInWrong)

/-- 'laws.FnExactPerfectOrder': WHATEVER THE INPUT: true; the input reads as it did. -/
def fnExactPerfectOrderSpec : ChangeSpec := { name := "fnExactPerfectOrder", fn := fun _ => fun
  | [d] => { results := [.lit (.bool true)], args := [d] }
  | _ => none }
def fnExactPerfectOrderRow : OpenClaim := { program := "ytmfolclpddoplaa", sum := "c054af78fb97bda668aa00ede0e10f680df666eb08cddf9ad2b46553b1ec4535", func := "loop.example/g00871/laws.FnExactPerfectOrder", spec := "fnExactPerfectOrder", unfollowed := true, recurses := true, apart := false }
def FnExactPerfectOrderSaid : Prop := fnExactPerfectOrderRow.holds Try.pinned (OpenSpec.ofChange fnExactPerfectOrderSpec)

/-- ITS FALSE NEIGHBOUR: 'it returns false'. Refute it at one input. -/
def fnExactPerfectOrderWrong : ChangeSpec := { name := "fnExactPerfectOrder", fn := fun _ => fun
  | [d] => { results := [.lit (.bool false)], args := [d] }
  | _ => none }
def FnExactPerfectOrderWrongFalsely : Prop := fnExactPerfectOrderRow.holds Try.pinned (OpenSpec.ofChange fnExactPerfectOrderWrong)

/-- 'laws.FnExactChordlessOk': WHATEVER THE INPUT: true; the input reads as it did. -/
def fnExactChordlessOkSpec : ChangeSpec := { name := "fnExactChordlessOk", fn := fun _ => fun
  | [d1, d2] => { results := [.lit (.bool true)], args := [d1, d2] }
  | _ => none }
def fnExactChordlessOkRow : OpenClaim := { program := "ytmfolclpddoplaa", sum := "c054af78fb97bda668aa00ede0e10f680df666eb08cddf9ad2b46553b1ec4535", func := "loop.example/g00871/laws.FnExactChordlessOk", spec := "fnExactChordlessOk", apart := false }
def FnExactChordlessOkSaid : Prop := fnExactChordlessOkRow.holds Try.pinned (OpenSpec.ofChange fnExactChordlessOkSpec)

/-- ITS FALSE NEIGHBOUR: 'it returns false'. Refute it at one input. -/
def fnExactChordlessOkWrong : ChangeSpec := { name := "fnExactChordlessOk", fn := fun _ => fun
  | [d1, d2] => { results := [.lit (.bool false)], args := [d1, d2] }
  | _ => none }
def FnExactChordlessOkWrongFalsely : Prop := fnExactChordlessOkRow.holds Try.pinned (OpenSpec.ofChange fnExactChordlessOkWrong)

/-- 'laws.FnExactSimplicialIn': WHATEVER THE INPUT: true; the input reads as it did. -/
def fnExactSimplicialInSpec : ChangeSpec := { name := "fnExactSimplicialIn", fn := fun _ => fun
  | [d] => { results := [.lit (.bool true)], args := [d] }
  | _ => none }
def fnExactSimplicialInRow : OpenClaim := { program := "ytmfolclpddoplaa", sum := "c054af78fb97bda668aa00ede0e10f680df666eb08cddf9ad2b46553b1ec4535", func := "loop.example/g00871/laws.FnExactSimplicialIn", spec := "fnExactSimplicialIn", apart := false }
def FnExactSimplicialInSaid : Prop := fnExactSimplicialInRow.holds Try.pinned (OpenSpec.ofChange fnExactSimplicialInSpec)

/-- ITS FALSE NEIGHBOUR: 'it returns false'. Refute it at one input. -/
def fnExactSimplicialInWrong : ChangeSpec := { name := "fnExactSimplicialIn", fn := fun _ => fun
  | [d] => { results := [.lit (.bool false)], args := [d] }
  | _ => none }
def FnExactSimplicialInWrongFalsely : Prop := fnExactSimplicialInRow.holds Try.pinned (OpenSpec.ofChange fnExactSimplicialInWrong)

/-- 'laws.FnExactCliqueOk': WHATEVER THE INPUT: true; the input reads as it did. -/
def fnExactCliqueOkSpec : ChangeSpec := { name := "fnExactCliqueOk", fn := fun _ => fun
  | [d1, d2] => { results := [.lit (.bool true)], args := [d1, d2] }
  | _ => none }
def fnExactCliqueOkRow : OpenClaim := { program := "ytmfolclpddoplaa", sum := "c054af78fb97bda668aa00ede0e10f680df666eb08cddf9ad2b46553b1ec4535", func := "loop.example/g00871/laws.FnExactCliqueOk", spec := "fnExactCliqueOk", apart := false }
def FnExactCliqueOkSaid : Prop := fnExactCliqueOkRow.holds Try.pinned (OpenSpec.ofChange fnExactCliqueOkSpec)

/-- ITS FALSE NEIGHBOUR: 'it returns false'. Refute it at one input. -/
def fnExactCliqueOkWrong : ChangeSpec := { name := "fnExactCliqueOk", fn := fun _ => fun
  | [d1, d2] => { results := [.lit (.bool false)], args := [d1, d2] }
  | _ => none }
def FnExactCliqueOkWrongFalsely : Prop := fnExactCliqueOkRow.holds Try.pinned (OpenSpec.ofChange fnExactCliqueOkWrong)

/-- 'laws.FnExactCliquesOf': WHATEVER THE INPUT: true; the input reads as it did. -/
def fnExactCliquesOfSpec : ChangeSpec := { name := "fnExactCliquesOf", fn := fun _ => fun
  | [d] => { results := [.lit (.bool true)], args := [d] }
  | _ => none }
def fnExactCliquesOfRow : OpenClaim := { program := "ytmfolclpddoplaa", sum := "c054af78fb97bda668aa00ede0e10f680df666eb08cddf9ad2b46553b1ec4535", func := "loop.example/g00871/laws.FnExactCliquesOf", spec := "fnExactCliquesOf", unfollowed := true, recurses := true, apart := false }
def FnExactCliquesOfSaid : Prop := fnExactCliquesOfRow.holds Try.pinned (OpenSpec.ofChange fnExactCliquesOfSpec)

/-- ITS FALSE NEIGHBOUR: 'it returns false'. Refute it at one input. -/
def fnExactCliquesOfWrong : ChangeSpec := { name := "fnExactCliquesOf", fn := fun _ => fun
  | [d] => { results := [.lit (.bool false)], args := [d] }
  | _ => none }
def FnExactCliquesOfWrongFalsely : Prop := fnExactCliquesOfRow.holds Try.pinned (OpenSpec.ofChange fnExactCliquesOfWrong)

/- THE SECOND FORM. 'bulk': how many values and letters a reading holds, each counted each time it is reached (what is shared counts as often as it is met; a slice's spare places count too). A statement '..UptoSaid' is the law's where the arguments, and the package variables that the reading takes, are together of bulk at most 1048576: NARROWER than '..Said'. Prove '..Said' where nothing that the law and all that it calls make is longer than what came in: it says more and counts as full. Else prove '..UptoSaid'. A law counts once. -/
mutual
def uptoBulk {H : Type} : DataW H → Nat
  | .lit (.string bytes) => bytes.length + 1
  | .lit _ => 1
  | .nil => 1
  | .ptr d => uptoBulk d + 1
  | .slice elems spare => uptoBulkAll elems + uptoBulkAll spare + 1
  | .agg parts => uptoBulkAll parts + 1
  | .iface _ d => uptoBulk d + 1
  | .map entries => uptoBulkEntries entries + 1
  | .held _ => 1
def uptoBulkAll {H : Type} : List (DataW H) → Nat
  | [] => 0
  | d :: r => uptoBulk d + uptoBulkAll r
def uptoBulkEntries {H : Type} : List (Lit × DataW H) → Nat
  | [] => 0
  | x :: r => uptoBulkEntry x + uptoBulkEntries r
def uptoBulkEntry {H : Type} : Lit × DataW H → Nat
  | (.string bytes, d) => bytes.length + uptoBulk d + 1
  | (_, d) => uptoBulk d + 1
 end
def uptoSmall : (H : Type) → List (DataW H) → Bool := fun _ ds => decide (uptoBulkAll ds ≤ 1048576)
def OpenSpec.upto (s : _root_.Go.ChangeSpec) : _root_.Go.OpenSpec := { _root_.Go.OpenSpec.ofChange s with cond := some uptoSmall }

/-- 'laws.FnOrders', WHERE WHAT IT READS IS OF BULK AT MOST 1048576: true; the input reads as it did. -/
def fnOrdersUptoRow : OpenClaim := { program := "ytmfolclpddoplaa", sum := "c054af78fb97bda668aa00ede0e10f680df666eb08cddf9ad2b46553b1ec4535", func := "loop.example/g00871/laws.FnOrders", spec := "fnOrders", unfollowed := true, recurses := true, apart := false, narrowed := true }
def FnOrdersUptoSaid : Prop := fnOrdersUptoRow.holds Try.pinned (OpenSpec.upto fnOrdersSpec)

/-- 'laws.FnCliques', WHERE WHAT IT READS IS OF BULK AT MOST 1048576: true; the input reads as it did. -/
def fnCliquesUptoRow : OpenClaim := { program := "ytmfolclpddoplaa", sum := "c054af78fb97bda668aa00ede0e10f680df666eb08cddf9ad2b46553b1ec4535", func := "loop.example/g00871/laws.FnCliques", spec := "fnCliques", unfollowed := true, recurses := true, apart := false, narrowed := true }
def FnCliquesUptoSaid : Prop := fnCliquesUptoRow.holds Try.pinned (OpenSpec.upto fnCliquesSpec)

/-- 'laws.FnExactByDegree', WHERE WHAT IT READS IS OF BULK AT MOST 1048576: true; the input reads as it did. -/
def fnExactByDegreeUptoRow : OpenClaim := { program := "ytmfolclpddoplaa", sum := "c054af78fb97bda668aa00ede0e10f680df666eb08cddf9ad2b46553b1ec4535", func := "loop.example/g00871/laws.FnExactByDegree", spec := "fnExactByDegree", unfollowed := true, recurses := true, apart := false, narrowed := true }
def FnExactByDegreeUptoSaid : Prop := fnExactByDegreeUptoRow.holds Try.pinned (OpenSpec.upto fnExactByDegreeSpec)

/-- 'laws.FnExactByFill', WHERE WHAT IT READS IS OF BULK AT MOST 1048576: true; the input reads as it did. -/
def fnExactByFillUptoRow : OpenClaim := { program := "ytmfolclpddoplaa", sum := "c054af78fb97bda668aa00ede0e10f680df666eb08cddf9ad2b46553b1ec4535", func := "loop.example/g00871/laws.FnExactByFill", spec := "fnExactByFill", unfollowed := true, recurses := true, apart := false, narrowed := true }
def FnExactByFillUptoSaid : Prop := fnExactByFillUptoRow.holds Try.pinned (OpenSpec.upto fnExactByFillSpec)

/-- 'laws.FnExactChordalIn', WHERE WHAT IT READS IS OF BULK AT MOST 1048576: true; the input reads as it did. -/
def fnExactChordalInUptoRow : OpenClaim := { program := "ytmfolclpddoplaa", sum := "c054af78fb97bda668aa00ede0e10f680df666eb08cddf9ad2b46553b1ec4535", func := "loop.example/g00871/laws.FnExactChordalIn", spec := "fnExactChordalIn", unfollowed := true, recurses := true, apart := false, narrowed := true }
def FnExactChordalInUptoSaid : Prop := fnExactChordalInUptoRow.holds Try.pinned (OpenSpec.upto fnExactChordalInSpec)

/-- 'laws.FnExactPerfectOrder', WHERE WHAT IT READS IS OF BULK AT MOST 1048576: true; the input reads as it did. -/
def fnExactPerfectOrderUptoRow : OpenClaim := { program := "ytmfolclpddoplaa", sum := "c054af78fb97bda668aa00ede0e10f680df666eb08cddf9ad2b46553b1ec4535", func := "loop.example/g00871/laws.FnExactPerfectOrder", spec := "fnExactPerfectOrder", unfollowed := true, recurses := true, apart := false, narrowed := true }
def FnExactPerfectOrderUptoSaid : Prop := fnExactPerfectOrderUptoRow.holds Try.pinned (OpenSpec.upto fnExactPerfectOrderSpec)

/-- 'laws.FnExactChordlessOk', WHERE WHAT IT READS IS OF BULK AT MOST 1048576: true; the input reads as it did. -/
def fnExactChordlessOkUptoRow : OpenClaim := { program := "ytmfolclpddoplaa", sum := "c054af78fb97bda668aa00ede0e10f680df666eb08cddf9ad2b46553b1ec4535", func := "loop.example/g00871/laws.FnExactChordlessOk", spec := "fnExactChordlessOk", apart := false, narrowed := true }
def FnExactChordlessOkUptoSaid : Prop := fnExactChordlessOkUptoRow.holds Try.pinned (OpenSpec.upto fnExactChordlessOkSpec)

/-- 'laws.FnExactSimplicialIn', WHERE WHAT IT READS IS OF BULK AT MOST 1048576: true; the input reads as it did. -/
def fnExactSimplicialInUptoRow : OpenClaim := { program := "ytmfolclpddoplaa", sum := "c054af78fb97bda668aa00ede0e10f680df666eb08cddf9ad2b46553b1ec4535", func := "loop.example/g00871/laws.FnExactSimplicialIn", spec := "fnExactSimplicialIn", apart := false, narrowed := true }
def FnExactSimplicialInUptoSaid : Prop := fnExactSimplicialInUptoRow.holds Try.pinned (OpenSpec.upto fnExactSimplicialInSpec)

/-- 'laws.FnExactCliqueOk', WHERE WHAT IT READS IS OF BULK AT MOST 1048576: true; the input reads as it did. -/
def fnExactCliqueOkUptoRow : OpenClaim := { program := "ytmfolclpddoplaa", sum := "c054af78fb97bda668aa00ede0e10f680df666eb08cddf9ad2b46553b1ec4535", func := "loop.example/g00871/laws.FnExactCliqueOk", spec := "fnExactCliqueOk", apart := false, narrowed := true }
def FnExactCliqueOkUptoSaid : Prop := fnExactCliqueOkUptoRow.holds Try.pinned (OpenSpec.upto fnExactCliqueOkSpec)

/-- 'laws.FnExactCliquesOf', WHERE WHAT IT READS IS OF BULK AT MOST 1048576: true; the input reads as it did. -/
def fnExactCliquesOfUptoRow : OpenClaim := { program := "ytmfolclpddoplaa", sum := "c054af78fb97bda668aa00ede0e10f680df666eb08cddf9ad2b46553b1ec4535", func := "loop.example/g00871/laws.FnExactCliquesOf", spec := "fnExactCliquesOf", unfollowed := true, recurses := true, apart := false, narrowed := true }
def FnExactCliquesOfUptoSaid : Prop := fnExactCliquesOfUptoRow.holds Try.pinned (OpenSpec.upto fnExactCliquesOfSpec)

end Rows
end Go.Proofs.Ytmfolclpddoplaa
