/-
  No cell of these rows narrows 'for every input' (looked for: loops, veiled, ifaces, maps, wideKeys, modest, calm, conditions, laid).
  DERIVED. THE GIVEN ROWS OF THIS SEAT. 10 by the template 'for every input the law returns true; each argument reads behind the call as it read before'; 0 by the template 'total and deterministic' (their statements: YtgnmggjihkfnoaaTotals.lean).
  GIVEN WITH THE SEED: the statements are not yours to turn. If you find one false, say at which input.
  Laid BY PROGRAM, IN A SANDBOX (cutbox-rows.mjs): the forced cells as the released guide's own fill.sh prints them over the translation b9d2cdfe73a2b308… (all of the seat's roots in one cut). By AI agents, Wed Nov 11 2026. No macro, syntax, notation, axiom, sorry.
-/
import Derived.Test.YtgnmggjihkfnoaaChecked
import GoSem.Claim
import GoSem.ClaimJoined
import GoSem.ClaimMapViews
import Derived.JoinedTies
import Derived.KernelRfl
namespace Go.Proofs.Ytgnmggjihkfnoaa
/- THE CELL 'sum', in the pinned program and in every row, IS THE sha256 OF THE DUMP (.gsa) THAT YtgnmggjihkfnoaaProg.lean LOADS. Nothing in Lean hashes anything: it is a label: what it is worth is what the hold of that sum in a sandbox is worth. -/
noncomputable def Try.pinned : Pinned := { name := "ytgnmggjihkfnoaa", sum := "b9d2cdfe73a2b30892fea01ed9cca6051de88f7ca2e08812e6149a54a916efb3", checked := Try.checked }
namespace Rows
def none {H : Type} : Left H := { results := [], args := [] }

/-- 'laws.FnFill': WHATEVER THE INPUT: true; the input reads as it did. -/
def fnFillSpec : ChangeSpec := { name := "fnFill", fn := fun _ => fun
  | [d] => { results := [.lit (.bool true)], args := [d] }
  | _ => none }
def fnFillRow : OpenClaim := { program := "ytgnmggjihkfnoaa", sum := "b9d2cdfe73a2b30892fea01ed9cca6051de88f7ca2e08812e6149a54a916efb3", func := "loop.example/g00871/laws.FnFill", spec := "fnFill", apart := false }
def FnFillSaid : Prop := fnFillRow.holds Try.pinned (OpenSpec.ofChange fnFillSpec)

/-- ITS FALSE NEIGHBOUR: 'it returns false'. Refute it at one input. -/
def fnFillWrong : ChangeSpec := { name := "fnFill", fn := fun _ => fun
  | [d] => { results := [.lit (.bool false)], args := [d] }
  | _ => none }
def FnFillWrongFalsely : Prop := fnFillRow.holds Try.pinned (OpenSpec.ofChange fnFillWrong)

/-- 'laws.FnOrders': WHATEVER THE INPUT: true; the input reads as it did. -/
def fnOrdersSpec : ChangeSpec := { name := "fnOrders", fn := fun _ => fun
  | [d] => { results := [.lit (.bool true)], args := [d] }
  | _ => none }
def fnOrdersRow : OpenClaim := { program := "ytgnmggjihkfnoaa", sum := "b9d2cdfe73a2b30892fea01ed9cca6051de88f7ca2e08812e6149a54a916efb3", func := "loop.example/g00871/laws.FnOrders", spec := "fnOrders", unfollowed := true, recurses := true, apart := false }
def FnOrdersSaid : Prop := fnOrdersRow.holds Try.pinned (OpenSpec.ofChange fnOrdersSpec)

/-- ITS FALSE NEIGHBOUR: 'it returns false'. Refute it at one input. -/
def fnOrdersWrong : ChangeSpec := { name := "fnOrders", fn := fun _ => fun
  | [d] => { results := [.lit (.bool false)], args := [d] }
  | _ => none }
def FnOrdersWrongFalsely : Prop := fnOrdersRow.holds Try.pinned (OpenSpec.ofChange fnOrdersWrong)

/-- 'laws.FnExactFillOf': WHATEVER THE INPUT: true; the input reads as it did. -/
def fnExactFillOfSpec : ChangeSpec := { name := "fnExactFillOf", fn := fun _ => fun
  | [d1, d2] => { results := [.lit (.bool true)], args := [d1, d2] }
  | _ => none }
def fnExactFillOfRow : OpenClaim := { program := "ytgnmggjihkfnoaa", sum := "b9d2cdfe73a2b30892fea01ed9cca6051de88f7ca2e08812e6149a54a916efb3", func := "loop.example/g00871/laws.FnExactFillOf", spec := "fnExactFillOf", apart := false }
def FnExactFillOfSaid : Prop := fnExactFillOfRow.holds Try.pinned (OpenSpec.ofChange fnExactFillOfSpec)

/-- ITS FALSE NEIGHBOUR: 'it returns false'. Refute it at one input. -/
def fnExactFillOfWrong : ChangeSpec := { name := "fnExactFillOf", fn := fun _ => fun
  | [d1, d2] => { results := [.lit (.bool false)], args := [d1, d2] }
  | _ => none }
def FnExactFillOfWrongFalsely : Prop := fnExactFillOfRow.holds Try.pinned (OpenSpec.ofChange fnExactFillOfWrong)

/-- 'laws.FnExactLaterOf': WHATEVER THE INPUT: true; the input reads as it did. -/
def fnExactLaterOfSpec : ChangeSpec := { name := "fnExactLaterOf", fn := fun _ => fun
  | [d1, d2] => { results := [.lit (.bool true)], args := [d1, d2] }
  | _ => none }
def fnExactLaterOfRow : OpenClaim := { program := "ytgnmggjihkfnoaa", sum := "b9d2cdfe73a2b30892fea01ed9cca6051de88f7ca2e08812e6149a54a916efb3", func := "loop.example/g00871/laws.FnExactLaterOf", spec := "fnExactLaterOf", apart := false }
def FnExactLaterOfSaid : Prop := fnExactLaterOfRow.holds Try.pinned (OpenSpec.ofChange fnExactLaterOfSpec)

/-- ITS FALSE NEIGHBOUR: 'it returns false'. Refute it at one input. -/
def fnExactLaterOfWrong : ChangeSpec := { name := "fnExactLaterOf", fn := fun _ => fun
  | [d1, d2] => { results := [.lit (.bool false)], args := [d1, d2] }
  | _ => none }
def FnExactLaterOfWrongFalsely : Prop := fnExactLaterOfRow.holds Try.pinned (OpenSpec.ofChange fnExactLaterOfWrong)

/-- 'laws.FnExactOrderWidth': WHATEVER THE INPUT: true; the input reads as it did. -/
def fnExactOrderWidthSpec : ChangeSpec := { name := "fnExactOrderWidth", fn := fun _ => fun
  | [d1, d2] => { results := [.lit (.bool true)], args := [d1, d2] }
  | _ => none }
def fnExactOrderWidthRow : OpenClaim := { program := "ytgnmggjihkfnoaa", sum := "b9d2cdfe73a2b30892fea01ed9cca6051de88f7ca2e08812e6149a54a916efb3", func := "loop.example/g00871/laws.FnExactOrderWidth", spec := "fnExactOrderWidth", apart := false }
def FnExactOrderWidthSaid : Prop := fnExactOrderWidthRow.holds Try.pinned (OpenSpec.ofChange fnExactOrderWidthSpec)

/-- ITS FALSE NEIGHBOUR: 'it returns false'. Refute it at one input. -/
def fnExactOrderWidthWrong : ChangeSpec := { name := "fnExactOrderWidth", fn := fun _ => fun
  | [d1, d2] => { results := [.lit (.bool false)], args := [d1, d2] }
  | _ => none }
def FnExactOrderWidthWrongFalsely : Prop := fnExactOrderWidthRow.holds Try.pinned (OpenSpec.ofChange fnExactOrderWidthWrong)

/-- 'laws.FnExactFillMany': WHATEVER THE INPUT: true; the input reads as it did. -/
def fnExactFillManySpec : ChangeSpec := { name := "fnExactFillMany", fn := fun _ => fun
  | [d1, d2] => { results := [.lit (.bool true)], args := [d1, d2] }
  | _ => none }
def fnExactFillManyRow : OpenClaim := { program := "ytgnmggjihkfnoaa", sum := "b9d2cdfe73a2b30892fea01ed9cca6051de88f7ca2e08812e6149a54a916efb3", func := "loop.example/g00871/laws.FnExactFillMany", spec := "fnExactFillMany", apart := false }
def FnExactFillManySaid : Prop := fnExactFillManyRow.holds Try.pinned (OpenSpec.ofChange fnExactFillManySpec)

/-- ITS FALSE NEIGHBOUR: 'it returns false'. Refute it at one input. -/
def fnExactFillManyWrong : ChangeSpec := { name := "fnExactFillMany", fn := fun _ => fun
  | [d1, d2] => { results := [.lit (.bool false)], args := [d1, d2] }
  | _ => none }
def FnExactFillManyWrongFalsely : Prop := fnExactFillManyRow.holds Try.pinned (OpenSpec.ofChange fnExactFillManyWrong)

/-- 'laws.FnExactPerfectIn': WHATEVER THE INPUT: true; the input reads as it did. -/
def fnExactPerfectInSpec : ChangeSpec := { name := "fnExactPerfectIn", fn := fun _ => fun
  | [d1, d2] => { results := [.lit (.bool true)], args := [d1, d2] }
  | _ => none }
def fnExactPerfectInRow : OpenClaim := { program := "ytgnmggjihkfnoaa", sum := "b9d2cdfe73a2b30892fea01ed9cca6051de88f7ca2e08812e6149a54a916efb3", func := "loop.example/g00871/laws.FnExactPerfectIn", spec := "fnExactPerfectIn", apart := false }
def FnExactPerfectInSaid : Prop := fnExactPerfectInRow.holds Try.pinned (OpenSpec.ofChange fnExactPerfectInSpec)

/-- ITS FALSE NEIGHBOUR: 'it returns false'. Refute it at one input. -/
def fnExactPerfectInWrong : ChangeSpec := { name := "fnExactPerfectIn", fn := fun _ => fun
  | [d1, d2] => { results := [.lit (.bool false)], args := [d1, d2] }
  | _ => none }
def FnExactPerfectInWrongFalsely : Prop := fnExactPerfectInRow.holds Try.pinned (OpenSpec.ofChange fnExactPerfectInWrong)

/-- 'laws.FnExactByDegree': WHATEVER THE INPUT: true; the input reads as it did. -/
def fnExactByDegreeSpec : ChangeSpec := { name := "fnExactByDegree", fn := fun _ => fun
  | [d] => { results := [.lit (.bool true)], args := [d] }
  | _ => none }
def fnExactByDegreeRow : OpenClaim := { program := "ytgnmggjihkfnoaa", sum := "b9d2cdfe73a2b30892fea01ed9cca6051de88f7ca2e08812e6149a54a916efb3", func := "loop.example/g00871/laws.FnExactByDegree", spec := "fnExactByDegree", unfollowed := true, recurses := true, apart := false }
def FnExactByDegreeSaid : Prop := fnExactByDegreeRow.holds Try.pinned (OpenSpec.ofChange fnExactByDegreeSpec)

/-- ITS FALSE NEIGHBOUR: 'it returns false'. Refute it at one input. -/
def fnExactByDegreeWrong : ChangeSpec := { name := "fnExactByDegree", fn := fun _ => fun
  | [d] => { results := [.lit (.bool false)], args := [d] }
  | _ => none }
def FnExactByDegreeWrongFalsely : Prop := fnExactByDegreeRow.holds Try.pinned (OpenSpec.ofChange fnExactByDegreeWrong)

/-- 'laws.FnExactByFill': WHATEVER THE INPUT: true; the input reads as it did. -/
def fnExactByFillSpec : ChangeSpec := { name := "fnExactByFill", fn := fun _ => fun
  | [d] => { results := [.lit (.bool true)], args := [d] }
  | _ => none }
def fnExactByFillRow : OpenClaim := { program := "ytgnmggjihkfnoaa", sum := "b9d2cdfe73a2b30892fea01ed9cca6051de88f7ca2e08812e6149a54a916efb3", func := "loop.example/g00871/laws.FnExactByFill", spec := "fnExactByFill", unfollowed := true, recurses := true, apart := false }
def FnExactByFillSaid : Prop := fnExactByFillRow.holds Try.pinned (OpenSpec.ofChange fnExactByFillSpec)

/-- ITS FALSE NEIGHBOUR: 'it returns false'. Refute it at one input. -/
def fnExactByFillWrong : ChangeSpec := { name := "fnExactByFill", fn := fun _ => fun
  | [d] => { results := [.lit (.bool false)], args := [d] }
  | _ => none }
def FnExactByFillWrongFalsely : Prop := fnExactByFillRow.holds Try.pinned (OpenSpec.ofChange fnExactByFillWrong)

/-- 'laws.FnExactDegeneracyOf': WHATEVER THE INPUT: true; the input reads as it did. -/
def fnExactDegeneracyOfSpec : ChangeSpec := { name := "fnExactDegeneracyOf", fn := fun _ => fun
  | [d] => { results := [.lit (.bool true)], args := [d] }
  | _ => none }
def fnExactDegeneracyOfRow : OpenClaim := { program := "ytgnmggjihkfnoaa", sum := "b9d2cdfe73a2b30892fea01ed9cca6051de88f7ca2e08812e6149a54a916efb3", func := "loop.example/g00871/laws.FnExactDegeneracyOf", spec := "fnExactDegeneracyOf", unfollowed := true, recurses := true, apart := false }
def FnExactDegeneracyOfSaid : Prop := fnExactDegeneracyOfRow.holds Try.pinned (OpenSpec.ofChange fnExactDegeneracyOfSpec)

/-- ITS FALSE NEIGHBOUR: 'it returns false'. Refute it at one input. -/
def fnExactDegeneracyOfWrong : ChangeSpec := { name := "fnExactDegeneracyOf", fn := fun _ => fun
  | [d] => { results := [.lit (.bool false)], args := [d] }
  | _ => none }
def FnExactDegeneracyOfWrongFalsely : Prop := fnExactDegeneracyOfRow.holds Try.pinned (OpenSpec.ofChange fnExactDegeneracyOfWrong)

/- THE SECOND FORM. 'bulk': how many values and letters a reading holds, each counted each time it is reached (what is shared counts as often as it is met; a slice's spare places count too). A statement '..UptoSaid' is the law's where the arguments, and the package variables that the reading takes, are together of bulk at most 1048576: NARROWER than '..Said'. Prove '..Said' where nothing that the law and all that it calls make is longer than what came in: it says more and counts as full. Else prove '..UptoSaid'. A law counts once. -/
mutual
def uptoBulk {H : Type} : DataW H → Nat
  | .lit (.string bytes) => bytes.length + 1
  | .lit _ => 1
  | .nil => 1
  | .ptr d => uptoBulk d + 1
  | .slice elems spare => uptoBulkAll elems + uptoBulkAll spare + 1
  | .agg parts => uptoBulkAll parts + 1
  | .iface _ d => uptoBulk d + 1
  | .map entries => uptoBulkEntries entries + 1
  | .held _ => 1
def uptoBulkAll {H : Type} : List (DataW H) → Nat
  | [] => 0
  | d :: r => uptoBulk d + uptoBulkAll r
def uptoBulkEntries {H : Type} : List (Lit × DataW H) → Nat
  | [] => 0
  | x :: r => uptoBulkEntry x + uptoBulkEntries r
def uptoBulkEntry {H : Type} : Lit × DataW H → Nat
  | (.string bytes, d) => bytes.length + uptoBulk d + 1
  | (_, d) => uptoBulk d + 1
 end
def uptoSmall : (H : Type) → List (DataW H) → Bool := fun _ ds => decide (uptoBulkAll ds ≤ 1048576)
def OpenSpec.upto (s : _root_.Go.ChangeSpec) : _root_.Go.OpenSpec := { _root_.Go.OpenSpec.ofChange s with cond := some uptoSmall }

/-- 'laws.FnFill', WHERE WHAT IT READS IS OF BULK AT MOST 1048576: true; the input reads as it did. -/
def fnFillUptoRow : OpenClaim := { program := "ytgnmggjihkfnoaa", sum := "b9d2cdfe73a2b30892fea01ed9cca6051de88f7ca2e08812e6149a54a916efb3", func := "loop.example/g00871/laws.FnFill", spec := "fnFill", apart := false, narrowed := true }
def FnFillUptoSaid : Prop := fnFillUptoRow.holds Try.pinned (OpenSpec.upto fnFillSpec)

/-- 'laws.FnOrders', WHERE WHAT IT READS IS OF BULK AT MOST 1048576: true; the input reads as it did. -/
def fnOrdersUptoRow : OpenClaim := { program := "ytgnmggjihkfnoaa", sum := "b9d2cdfe73a2b30892fea01ed9cca6051de88f7ca2e08812e6149a54a916efb3", func := "loop.example/g00871/laws.FnOrders", spec := "fnOrders", unfollowed := true, recurses := true, apart := false, narrowed := true }
def FnOrdersUptoSaid : Prop := fnOrdersUptoRow.holds Try.pinned (OpenSpec.upto fnOrdersSpec)

/-- 'laws.FnExactFillOf', WHERE WHAT IT READS IS OF BULK AT MOST 1048576: true; the input reads as it did. -/
def fnExactFillOfUptoRow : OpenClaim := { program := "ytgnmggjihkfnoaa", sum := "b9d2cdfe73a2b30892fea01ed9cca6051de88f7ca2e08812e6149a54a916efb3", func := "loop.example/g00871/laws.FnExactFillOf", spec := "fnExactFillOf", apart := false, narrowed := true }
def FnExactFillOfUptoSaid : Prop := fnExactFillOfUptoRow.holds Try.pinned (OpenSpec.upto fnExactFillOfSpec)

/-- 'laws.FnExactLaterOf', WHERE WHAT IT READS IS OF BULK AT MOST 1048576: true; the input reads as it did. -/
def fnExactLaterOfUptoRow : OpenClaim := { program := "ytgnmggjihkfnoaa", sum := "b9d2cdfe73a2b30892fea01ed9cca6051de88f7ca2e08812e6149a54a916efb3", func := "loop.example/g00871/laws.FnExactLaterOf", spec := "fnExactLaterOf", apart := false, narrowed := true }
def FnExactLaterOfUptoSaid : Prop := fnExactLaterOfUptoRow.holds Try.pinned (OpenSpec.upto fnExactLaterOfSpec)

/-- 'laws.FnExactOrderWidth', WHERE WHAT IT READS IS OF BULK AT MOST 1048576: true; the input reads as it did. -/
def fnExactOrderWidthUptoRow : OpenClaim := { program := "ytgnmggjihkfnoaa", sum := "b9d2cdfe73a2b30892fea01ed9cca6051de88f7ca2e08812e6149a54a916efb3", func := "loop.example/g00871/laws.FnExactOrderWidth", spec := "fnExactOrderWidth", apart := false, narrowed := true }
def FnExactOrderWidthUptoSaid : Prop := fnExactOrderWidthUptoRow.holds Try.pinned (OpenSpec.upto fnExactOrderWidthSpec)

/-- 'laws.FnExactFillMany', WHERE WHAT IT READS IS OF BULK AT MOST 1048576: true; the input reads as it did. -/
def fnExactFillManyUptoRow : OpenClaim := { program := "ytgnmggjihkfnoaa", sum := "b9d2cdfe73a2b30892fea01ed9cca6051de88f7ca2e08812e6149a54a916efb3", func := "loop.example/g00871/laws.FnExactFillMany", spec := "fnExactFillMany", apart := false, narrowed := true }
def FnExactFillManyUptoSaid : Prop := fnExactFillManyUptoRow.holds Try.pinned (OpenSpec.upto fnExactFillManySpec)

/-- 'laws.FnExactPerfectIn', WHERE WHAT IT READS IS OF BULK AT MOST 1048576: true; the input reads as it did. -/
def fnExactPerfectInUptoRow : OpenClaim := { program := "ytgnmggjihkfnoaa", sum := "b9d2cdfe73a2b30892fea01ed9cca6051de88f7ca2e08812e6149a54a916efb3", func := "loop.example/g00871/laws.FnExactPerfectIn", spec := "fnExactPerfectIn", apart := false, narrowed := true }
def FnExactPerfectInUptoSaid : Prop := fnExactPerfectInUptoRow.holds Try.pinned (OpenSpec.upto fnExactPerfectInSpec)

/-- 'laws.FnExactByDegree', WHERE WHAT IT READS IS OF BULK AT MOST 1048576: true; the input reads as it did. -/
def fnExactByDegreeUptoRow : OpenClaim := { program := "ytgnmggjihkfnoaa", sum := "b9d2cdfe73a2b30892fea01ed9cca6051de88f7ca2e08812e6149a54a916efb3", func := "loop.example/g00871/laws.FnExactByDegree", spec := "fnExactByDegree", unfollowed := true, recurses := true, apart := false, narrowed := true }
def FnExactByDegreeUptoSaid : Prop := fnExactByDegreeUptoRow.holds Try.pinned (OpenSpec.upto fnExactByDegreeSpec)

/-- 'laws.FnExactByFill', WHERE WHAT IT READS IS OF BULK AT MOST 1048576: true; the input reads as it did. -/
def fnExactByFillUptoRow : OpenClaim := { program := "ytgnmggjihkfnoaa", sum := "b9d2cdfe73a2b30892fea01ed9cca6051de88f7ca2e08812e6149a54a916efb3", func := "loop.example/g00871/laws.FnExactByFill", spec := "fnExactByFill", unfollowed := true, recurses := true, apart := false, narrowed := true }
def FnExactByFillUptoSaid : Prop := fnExactByFillUptoRow.holds Try.pinned (OpenSpec.upto fnExactByFillSpec)

/-- 'laws.FnExactDegeneracyOf', WHERE WHAT IT READS IS OF BULK AT MOST 1048576: true; the input reads as it did. -/
def fnExactDegeneracyOfUptoRow : OpenClaim := { program := "ytgnmggjihkfnoaa", sum := "b9d2cdfe73a2b30892fea01ed9cca6051de88f7ca2e08812e6149a54a916efb3", func := "loop.example/g00871/laws.FnExactDegeneracyOf", spec := "fnExactDegeneracyOf", unfollowed := true, recurses := true, apart := false, narrowed := true }
def FnExactDegeneracyOfUptoSaid : Prop := fnExactDegeneracyOfUptoRow.holds Try.pinned (OpenSpec.upto fnExactDegeneracyOfSpec)

end Rows
end Go.Proofs.Ytgnmggjihkfnoaa
