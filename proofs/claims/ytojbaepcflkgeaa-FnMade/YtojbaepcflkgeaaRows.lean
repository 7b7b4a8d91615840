/-
  No cell of these rows narrows 'for every input' (looked for: loops, veiled, ifaces, maps, wideKeys, modest, calm, conditions, laid).
  DERIVED. THE GIVEN ROWS OF THIS SEAT. 11 by the template 'for every input the law returns true; each argument reads behind the call as it read before'; 0 by the template 'total and deterministic' (their statements: YtojbaepcflkgeaaTotals.lean).
  GIVEN WITH THE SEED: the statements are not yours to turn. If you find one false, say at which input.
  Laid BY PROGRAM, IN A SANDBOX (cutbox-rows.mjs): the forced cells as the released guide's own fill.sh prints them over the translation ebc50e2c3ca964a9… (all of the seat's roots in one cut). By AI agents, Wed Nov 11 2026. No macro, syntax, notation, axiom, sorry.
-/
import Derived.Test.YtojbaepcflkgeaaChecked
import GoSem.Claim
import GoSem.ClaimJoined
import GoSem.ClaimMapViews
import Derived.JoinedTies
import Derived.KernelRfl
namespace Go.Proofs.Ytojbaepcflkgeaa
/- THE CELL 'sum', in the pinned program and in every row, IS THE sha256 OF THE DUMP (.gsa) THAT YtojbaepcflkgeaaProg.lean LOADS. Nothing in Lean hashes anything: it is a label: what it is worth is what the hold of that sum in a sandbox is worth. -/
noncomputable def Try.pinned : Pinned := { name := "ytojbaepcflkgeaa", sum := "ebc50e2c3ca964a96ac205f92507e9da7f8bb1c1e6d13feffdb0e399e6581cfd", checked := Try.checked }
namespace Rows
def none {H : Type} : Left H := { results := [], args := [] }

/-- 'laws.FnMade': WHATEVER THE INPUT: true; the input reads as it did. -/
def fnMadeSpec : ChangeSpec := { name := "fnMade", fn := fun _ => fun
  | [d] => { results := [.lit (.bool true)], args := [d] }
  | _ => none }
def fnMadeRow : OpenClaim := { program := "ytojbaepcflkgeaa", sum := "ebc50e2c3ca964a96ac205f92507e9da7f8bb1c1e6d13feffdb0e399e6581cfd", func := "loop.example/g00871/laws.FnMade", spec := "fnMade", unfollowed := true, recurses := true, apart := false }
def FnMadeSaid : Prop := fnMadeRow.holds Try.pinned (OpenSpec.ofChange fnMadeSpec)

/-- ITS FALSE NEIGHBOUR: 'it returns false'. Refute it at one input. -/
def fnMadeWrong : ChangeSpec := { name := "fnMade", fn := fun _ => fun
  | [d] => { results := [.lit (.bool false)], args := [d] }
  | _ => none }
def FnMadeWrongFalsely : Prop := fnMadeRow.holds Try.pinned (OpenSpec.ofChange fnMadeWrong)

/-- 'laws.FnKnown': WHATEVER THE INPUT: true; the input reads as it did. -/
def fnKnownSpec : ChangeSpec := { name := "fnKnown", fn := fun _ => fun
  | [d] => { results := [.lit (.bool true)], args := [d] }
  | _ => none }
def fnKnownRow : OpenClaim := { program := "ytojbaepcflkgeaa", sum := "ebc50e2c3ca964a96ac205f92507e9da7f8bb1c1e6d13feffdb0e399e6581cfd", func := "loop.example/g00871/laws.FnKnown", spec := "fnKnown", unfollowed := true, recurses := true, apart := false }
def FnKnownSaid : Prop := fnKnownRow.holds Try.pinned (OpenSpec.ofChange fnKnownSpec)

/-- ITS FALSE NEIGHBOUR: 'it returns false'. Refute it at one input. -/
def fnKnownWrong : ChangeSpec := { name := "fnKnown", fn := fun _ => fun
  | [d] => { results := [.lit (.bool false)], args := [d] }
  | _ => none }
def FnKnownWrongFalsely : Prop := fnKnownRow.holds Try.pinned (OpenSpec.ofChange fnKnownWrong)

/-- 'laws.FnExactPathGraph': WHATEVER THE INPUT: true; the input reads as it did. -/
def fnExactPathGraphSpec : ChangeSpec := { name := "fnExactPathGraph", fn := fun _ => fun
  | [d] => { results := [.lit (.bool true)], args := [d] }
  | _ => none }
def fnExactPathGraphRow : OpenClaim := { program := "ytojbaepcflkgeaa", sum := "ebc50e2c3ca964a96ac205f92507e9da7f8bb1c1e6d13feffdb0e399e6581cfd", func := "loop.example/g00871/laws.FnExactPathGraph", spec := "fnExactPathGraph", unfollowed := true, recurses := true, apart := false }
def FnExactPathGraphSaid : Prop := fnExactPathGraphRow.holds Try.pinned (OpenSpec.ofChange fnExactPathGraphSpec)

/-- ITS FALSE NEIGHBOUR: 'it returns false'. Refute it at one input. -/
def fnExactPathGraphWrong : ChangeSpec := { name := "fnExactPathGraph", fn := fun _ => fun
  | [d] => { results := [.lit (.bool false)], args := [d] }
  | _ => none }
def FnExactPathGraphWrongFalsely : Prop := fnExactPathGraphRow.holds Try.pinned (OpenSpec.ofChange fnExactPathGraphWrong)

/-- 'laws.FnExactLoopGraph': WHATEVER THE INPUT: true; the input reads as it did. -/
def fnExactLoopGraphSpec : ChangeSpec := { name := "fnExactLoopGraph", fn := fun _ => fun
  | [d] => { results := [.lit (.bool true)], args := [d] }
  | _ => none }
def fnExactLoopGraphRow : OpenClaim := { program := "ytojbaepcflkgeaa", sum := "ebc50e2c3ca964a96ac205f92507e9da7f8bb1c1e6d13feffdb0e399e6581cfd", func := "loop.example/g00871/laws.FnExactLoopGraph", spec := "fnExactLoopGraph", unfollowed := true, recurses := true, apart := false }
def FnExactLoopGraphSaid : Prop := fnExactLoopGraphRow.holds Try.pinned (OpenSpec.ofChange fnExactLoopGraphSpec)

/-- ITS FALSE NEIGHBOUR: 'it returns false'. Refute it at one input. -/
def fnExactLoopGraphWrong : ChangeSpec := { name := "fnExactLoopGraph", fn := fun _ => fun
  | [d] => { results := [.lit (.bool false)], args := [d] }
  | _ => none }
def FnExactLoopGraphWrongFalsely : Prop := fnExactLoopGraphRow.holds Try.pinned (OpenSpec.ofChange fnExactLoopGraphWrong)

/-- 'laws.FnExactFullGraph': WHATEVER THE INPUT: true; the input reads as it did. -/
def fnExactFullGraphSpec : ChangeSpec := { name := "fnExactFullGraph", fn := fun _ => fun
  | [d] => { results := [.lit (.bool true)], args := [d] }
  | _ => none }
def fnExactFullGraphRow : OpenClaim := { program := "ytojbaepcflkgeaa", sum := "ebc50e2c3ca964a96ac205f92507e9da7f8bb1c1e6d13feffdb0e399e6581cfd", func := "loop.example/g00871/laws.FnExactFullGraph", spec := "fnExactFullGraph", unfollowed := true, recurses := true, apart := false }
def FnExactFullGraphSaid : Prop := fnExactFullGraphRow.holds Try.pinned (OpenSpec.ofChange fnExactFullGraphSpec)

/-- ITS FALSE NEIGHBOUR: 'it returns false'. Refute it at one input. -/
def fnExactFullGraphWrong : ChangeSpec := { name := "fnExactFullGraph", fn := fun _ => fun
  | [d] => { results := [.lit (.bool false)], args := [d] }
  | _ => none }
def FnExactFullGraphWrongFalsely : Prop := fnExactFullGraphRow.holds Try.pinned (OpenSpec.ofChange fnExactFullGraphWrong)

/-- 'laws.FnExactTwoSided': WHATEVER THE INPUT: true; the input reads as it did. -/
def fnExactTwoSidedSpec : ChangeSpec := { name := "fnExactTwoSided", fn := fun _ => fun
  | [d1, d2] => { results := [.lit (.bool true)], args := [d1, d2] }
  | _ => none }
def fnExactTwoSidedRow : OpenClaim := { program := "ytojbaepcflkgeaa", sum := "ebc50e2c3ca964a96ac205f92507e9da7f8bb1c1e6d13feffdb0e399e6581cfd", func := "loop.example/g00871/laws.FnExactTwoSided", spec := "fnExactTwoSided", unfollowed := true, recurses := true, apart := false }
def FnExactTwoSidedSaid : Prop := fnExactTwoSidedRow.holds Try.pinned (OpenSpec.ofChange fnExactTwoSidedSpec)

/-- ITS FALSE NEIGHBOUR: 'it returns false'. Refute it at one input. -/
def fnExactTwoSidedWrong : ChangeSpec := { name := "fnExactTwoSided", fn := fun _ => fun
  | [d1, d2] => { results := [.lit (.bool false)], args := [d1, d2] }
  | _ => none }
def FnExactTwoSidedWrongFalsely : Prop := fnExactTwoSidedRow.holds Try.pinned (OpenSpec.ofChange fnExactTwoSidedWrong)

/-- 'laws.FnExactWheelGraph': WHATEVER THE INPUT: true; the input reads as it did. -/
def fnExactWheelGraphSpec : ChangeSpec := { name := "fnExactWheelGraph", fn := fun _ => fun
  | [d] => { results := [.lit (.bool true)], args := [d] }
  | _ => none }
def fnExactWheelGraphRow : OpenClaim := { program := "ytojbaepcflkgeaa", sum := "ebc50e2c3ca964a96ac205f92507e9da7f8bb1c1e6d13feffdb0e399e6581cfd", func := "loop.example/g00871/laws.FnExactWheelGraph", spec := "fnExactWheelGraph", unfollowed := true, recurses := true, apart := false }
def FnExactWheelGraphSaid : Prop := fnExactWheelGraphRow.holds Try.pinned (OpenSpec.ofChange fnExactWheelGraphSpec)

/-- ITS FALSE NEIGHBOUR: 'it returns false'. Refute it at one input. -/
def fnExactWheelGraphWrong : ChangeSpec := { name := "fnExactWheelGraph", fn := fun _ => fun
  | [d] => { results := [.lit (.bool false)], args := [d] }
  | _ => none }
def FnExactWheelGraphWrongFalsely : Prop := fnExactWheelGraphRow.holds Try.pinned (OpenSpec.ofChange fnExactWheelGraphWrong)

/-- 'laws.FnExactGridGraph': WHATEVER THE INPUT: true; the input reads as it did. -/
def fnExactGridGraphSpec : ChangeSpec := { name := "fnExactGridGraph", fn := fun _ => fun
  | [d1, d2] => { results := [.lit (.bool true)], args := [d1, d2] }
  | _ => none }
def fnExactGridGraphRow : OpenClaim := { program := "ytojbaepcflkgeaa", sum := "ebc50e2c3ca964a96ac205f92507e9da7f8bb1c1e6d13feffdb0e399e6581cfd", func := "loop.example/g00871/laws.FnExactGridGraph", spec := "fnExactGridGraph", unfollowed := true, recurses := true, apart := false }
def FnExactGridGraphSaid : Prop := fnExactGridGraphRow.holds Try.pinned (OpenSpec.ofChange fnExactGridGraphSpec)

/-- ITS FALSE NEIGHBOUR: 'it returns false'. Refute it at one input. -/
def fnExactGridGraphWrong : ChangeSpec := { name := "fnExactGridGraph", fn := fun _ => fun
  | [d1, d2] => { results := [.lit (.bool false)], args := [d1, d2] }
  | _ => none }
def FnExactGridGraphWrongFalsely : Prop := fnExactGridGraphRow.holds Try.pinned (OpenSpec.ofChange fnExactGridGraphWrong)

/-- 'laws.FnExactKneserGraph': WHATEVER THE INPUT: true; the input reads as it did. -/
def fnExactKneserGraphSpec : ChangeSpec := { name := "fnExactKneserGraph", fn := fun _ => fun
  | [d] => { results := [.lit (.bool true)], args := [d] }
  | _ => none }
def fnExactKneserGraphRow : OpenClaim := { program := "ytojbaepcflkgeaa", sum := "ebc50e2c3ca964a96ac205f92507e9da7f8bb1c1e6d13feffdb0e399e6581cfd", func := "loop.example/g00871/laws.FnExactKneserGraph", spec := "fnExactKneserGraph", unfollowed := true, recurses := true, apart := false }
def FnExactKneserGraphSaid : Prop := fnExactKneserGraphRow.holds Try.pinned (OpenSpec.ofChange fnExactKneserGraphSpec)

/-- ITS FALSE NEIGHBOUR: 'it returns false'. Refute it at one input. -/
def fnExactKneserGraphWrong : ChangeSpec := { name := "fnExactKneserGraph", fn := fun _ => fun
  | [d] => { results := [.lit (.bool false)], args := [d] }
  | _ => none }
def FnExactKneserGraphWrongFalsely : Prop := fnExactKneserGraphRow.holds Try.pinned (OpenSpec.ofChange fnExactKneserGraphWrong)

/-- 'laws.FnExactDiceGraph': WHATEVER THE INPUT: true; the input reads as it did. -/
def fnExactDiceGraphSpec : ChangeSpec := { name := "fnExactDiceGraph", fn := fun _ => fun
  | [d1, d2, d3] => { results := [.lit (.bool true)], args := [d1, d2, d3] }
  | _ => none }
def fnExactDiceGraphRow : OpenClaim := { program := "ytojbaepcflkgeaa", sum := "ebc50e2c3ca964a96ac205f92507e9da7f8bb1c1e6d13feffdb0e399e6581cfd", func := "loop.example/g00871/laws.FnExactDiceGraph", spec := "fnExactDiceGraph", unfollowed := true, recurses := true, apart := false }
def FnExactDiceGraphSaid : Prop := fnExactDiceGraphRow.holds Try.pinned (OpenSpec.ofChange fnExactDiceGraphSpec)

/-- ITS FALSE NEIGHBOUR: 'it returns false'. Refute it at one input. -/
def fnExactDiceGraphWrong : ChangeSpec := { name := "fnExactDiceGraph", fn := fun _ => fun
  | [d1, d2, d3] => { results := [.lit (.bool false)], args := [d1, d2, d3] }
  | _ => none }
def FnExactDiceGraphWrongFalsely : Prop := fnExactDiceGraphRow.holds Try.pinned (OpenSpec.ofChange fnExactDiceGraphWrong)

/-- 'laws.FnExactStarGraph': WHATEVER THE INPUT: true; the input reads as it did. -/
def fnExactStarGraphSpec : ChangeSpec := { name := "fnExactStarGraph", fn := fun _ => fun
  | [d] => { results := [.lit (.bool true)], args := [d] }
  | _ => none }
def fnExactStarGraphRow : OpenClaim := { program := "ytojbaepcflkgeaa", sum := "ebc50e2c3ca964a96ac205f92507e9da7f8bb1c1e6d13feffdb0e399e6581cfd", func := "loop.example/g00871/laws.FnExactStarGraph", spec := "fnExactStarGraph", unfollowed := true, recurses := true, apart := false }
def FnExactStarGraphSaid : Prop := fnExactStarGraphRow.holds Try.pinned (OpenSpec.ofChange fnExactStarGraphSpec)

/-- ITS FALSE NEIGHBOUR: 'it returns false'. Refute it at one input. -/
def fnExactStarGraphWrong : ChangeSpec := { name := "fnExactStarGraph", fn := fun _ => fun
  | [d] => { results := [.lit (.bool false)], args := [d] }
  | _ => none }
def FnExactStarGraphWrongFalsely : Prop := fnExactStarGraphRow.holds Try.pinned (OpenSpec.ofChange fnExactStarGraphWrong)

/- THE SECOND FORM. 'bulk': how many values and letters a reading holds, each counted each time it is reached (what is shared counts as often as it is met; a slice's spare places count too). A statement '..UptoSaid' is the law's where the arguments, and the package variables that the reading takes, are together of bulk at most 1048576: NARROWER than '..Said'. Prove '..Said' where nothing that the law and all that it calls make is longer than what came in: it says more and counts as full. Else prove '..UptoSaid'. A law counts once. -/
mutual
def uptoBulk {H : Type} : DataW H → Nat
  | .lit (.string bytes) => bytes.length + 1
  | .lit _ => 1
  | .nil => 1
  | .ptr d => uptoBulk d + 1
  | .slice elems spare => uptoBulkAll elems + uptoBulkAll spare + 1
  | .agg parts => uptoBulkAll parts + 1
  | .iface _ d => uptoBulk d + 1
  | .map entries => uptoBulkEntries entries + 1
  | .held _ => 1
def uptoBulkAll {H : Type} : List (DataW H) → Nat
  | [] => 0
  | d :: r => uptoBulk d + uptoBulkAll r
def uptoBulkEntries {H : Type} : List (Lit × DataW H) → Nat
  | [] => 0
  | x :: r => uptoBulkEntry x + uptoBulkEntries r
def uptoBulkEntry {H : Type} : Lit × DataW H → Nat
  | (.string bytes, d) => bytes.length + uptoBulk d + 1
  | (_, d) => uptoBulk d + 1
 end
def uptoSmall : (H : Type) → List (DataW H) → Bool := fun _ ds => decide (uptoBulkAll ds ≤ 1048576)
def OpenSpec.upto (s : _root_.Go.ChangeSpec) : _root_.Go.OpenSpec := { _root_.Go.OpenSpec.ofChange s with cond := some uptoSmall }

/-- 'laws.FnMade', WHERE WHAT IT READS IS OF BULK AT MOST 1048576: true; the input reads as it did. -/
def fnMadeUptoRow : OpenClaim := { program := "ytojbaepcflkgeaa", sum := "ebc50e2c3ca964a96ac205f92507e9da7f8bb1c1e6d13feffdb0e399e6581cfd", func := "loop.example/g00871/laws.FnMade", spec := "fnMade", unfollowed := true, recurses := true, apart := false, narrowed := true }
def FnMadeUptoSaid : Prop := fnMadeUptoRow.holds Try.pinned (OpenSpec.upto fnMadeSpec)

/-- 'laws.FnKnown', WHERE WHAT IT READS IS OF BULK AT MOST 1048576: true; the input reads as it did. -/
def fnKnownUptoRow : OpenClaim := { program := "ytojbaepcflkgeaa", sum := "ebc50e2c3ca964a96ac205f92507e9da7f8bb1c1e6d13feffdb0e399e6581cfd", func := "loop.example/g00871/laws.FnKnown", spec := "fnKnown", unfollowed := true, recurses := true, apart := false, narrowed := true }
def FnKnownUptoSaid : Prop := fnKnownUptoRow.holds Try.pinned (OpenSpec.upto fnKnownSpec)

/-- 'laws.FnExactPathGraph', WHERE WHAT IT READS IS OF BULK AT MOST 1048576: true; the input reads as it did. -/
def fnExactPathGraphUptoRow : OpenClaim := { program := "ytojbaepcflkgeaa", sum := "ebc50e2c3ca964a96ac205f92507e9da7f8bb1c1e6d13feffdb0e399e6581cfd", func := "loop.example/g00871/laws.FnExactPathGraph", spec := "fnExactPathGraph", unfollowed := true, recurses := true, apart := false, narrowed := true }
def FnExactPathGraphUptoSaid : Prop := fnExactPathGraphUptoRow.holds Try.pinned (OpenSpec.upto fnExactPathGraphSpec)

/-- 'laws.FnExactLoopGraph', WHERE WHAT IT READS IS OF BULK AT MOST 1048576: true; the input reads as it did. -/
def fnExactLoopGraphUptoRow : OpenClaim := { program := "ytojbaepcflkgeaa", sum := "ebc50e2c3ca964a96ac205f92507e9da7f8bb1c1e6d13feffdb0e399e6581cfd", func := "loop.example/g00871/laws.FnExactLoopGraph", spec := "fnExactLoopGraph", unfollowed := true, recurses := true, apart := false, narrowed := true }
def FnExactLoopGraphUptoSaid : Prop := fnExactLoopGraphUptoRow.holds Try.pinned (OpenSpec.upto fnExactLoopGraphSpec)

/-- 'laws.FnExactFullGraph', WHERE WHAT IT READS IS OF BULK AT MOST 1048576: true; the input reads as it did. -/
def fnExactFullGraphUptoRow : OpenClaim := { program := "ytojbaepcflkgeaa", sum := "ebc50e2c3ca964a96ac205f92507e9da7f8bb1c1e6d13feffdb0e399e6581cfd", func := "loop.example/g00871/laws.FnExactFullGraph", spec := "fnExactFullGraph", unfollowed := true, recurses := true, apart := false, narrowed := true }
def FnExactFullGraphUptoSaid : Prop := fnExactFullGraphUptoRow.holds Try.pinned (OpenSpec.upto fnExactFullGraphSpec)

/-- 'laws.FnExactTwoSided', WHERE WHAT IT READS IS OF BULK AT MOST 1048576: true; the input reads as it did. -/
def fnExactTwoSidedUptoRow : OpenClaim := { program := "ytojbaepcflkgeaa", sum := "ebc50e2c3ca964a96ac205f92507e9da7f8bb1c1e6d13feffdb0e399e6581cfd", func := "loop.example/g00871/laws.FnExactTwoSided", spec := "fnExactTwoSided", unfollowed := true, recurses := true, apart := false, narrowed := true }
def FnExactTwoSidedUptoSaid : Prop := fnExactTwoSidedUptoRow.holds Try.pinned (OpenSpec.upto fnExactTwoSidedSpec)

/-- 'laws.FnExactWheelGraph', WHERE WHAT IT READS IS OF BULK AT MOST 1048576: true; the input reads as it did. -/
def fnExactWheelGraphUptoRow : OpenClaim := { program := "ytojbaepcflkgeaa", sum := "ebc50e2c3ca964a96ac205f92507e9da7f8bb1c1e6d13feffdb0e399e6581cfd", func := "loop.example/g00871/laws.FnExactWheelGraph", spec := "fnExactWheelGraph", unfollowed := true, recurses := true, apart := false, narrowed := true }
def FnExactWheelGraphUptoSaid : Prop := fnExactWheelGraphUptoRow.holds Try.pinned (OpenSpec.upto fnExactWheelGraphSpec)

/-- 'laws.FnExactGridGraph', WHERE WHAT IT READS IS OF BULK AT MOST 1048576: true; the input reads as it did. -/
def fnExactGridGraphUptoRow : OpenClaim := { program := "ytojbaepcflkgeaa", sum := "ebc50e2c3ca964a96ac205f92507e9da7f8bb1c1e6d13feffdb0e399e6581cfd", func := "loop.example/g00871/laws.FnExactGridGraph", spec := "fnExactGridGraph", unfollowed := true, recurses := true, apart := false, narrowed := true }
def FnExactGridGraphUptoSaid : Prop := fnExactGridGraphUptoRow.holds Try.pinned (OpenSpec.upto fnExactGridGraphSpec)

/-- 'laws.FnExactKneserGraph', WHERE WHAT IT READS IS OF BULK AT MOST 1048576: true; the input reads as it did. -/
def fnExactKneserGraphUptoRow : OpenClaim := { program := "ytojbaepcflkgeaa", sum := "ebc50e2c3ca964a96ac205f92507e9da7f8bb1c1e6d13feffdb0e399e6581cfd", func := "loop.example/g00871/laws.FnExactKneserGraph", spec := "fnExactKneserGraph", unfollowed := true, recurses := true, apart := false, narrowed := true }
def FnExactKneserGraphUptoSaid : Prop := fnExactKneserGraphUptoRow.holds Try.pinned (OpenSpec.upto fnExactKneserGraphSpec)

/-- 'laws.FnExactDiceGraph', WHERE WHAT IT READS IS OF BULK AT MOST 1048576: true; the input reads as it did. -/
def fnExactDiceGraphUptoRow : OpenClaim := { program := "ytojbaepcflkgeaa", sum := "ebc50e2c3ca964a96ac205f92507e9da7f8bb1c1e6d13feffdb0e399e6581cfd", func := "loop.example/g00871/laws.FnExactDiceGraph", spec := "fnExactDiceGraph", unfollowed := true, recurses := true, apart := false, narrowed := true }
def FnExactDiceGraphUptoSaid : Prop := fnExactDiceGraphUptoRow.holds Try.pinned (OpenSpec.upto fnExactDiceGraphSpec)

/-- 'laws.FnExactStarGraph', WHERE WHAT IT READS IS OF BULK AT MOST 1048576: true; the input reads as it did. -/
def fnExactStarGraphUptoRow : OpenClaim := { program := "ytojbaepcflkgeaa", sum := "ebc50e2c3ca964a96ac205f92507e9da7f8bb1c1e6d13feffdb0e399e6581cfd", func := "loop.example/g00871/laws.FnExactStarGraph", spec := "fnExactStarGraph", unfollowed := true, recurses := true, apart := false, narrowed := true }
def FnExactStarGraphUptoSaid : Prop := fnExactStarGraphUptoRow.holds Try.pinned (OpenSpec.upto fnExactStarGraphSpec)

end Rows
end Go.Proofs.Ytojbaepcflkgeaa
