/-
  No cell of these rows narrows 'for every input' (looked for: loops, veiled, ifaces, maps, wideKeys, modest, calm, conditions, laid).
  DERIVED. THE GIVEN ROWS OF THIS SEAT. 13 by the template 'for every input the law returns true; each argument reads behind the call as it read before'; 0 by the template 'total and deterministic' (their statements: YtikfbfclbmlopaaTotals.lean).
  GIVEN WITH THE SEED: the statements are not yours to turn. If you find one false, say at which input.
  Laid BY PROGRAM, IN A SANDBOX (cutbox-rows.mjs): the forced cells as the released guide's own fill.sh prints them over the translation 55d10e62de5a28b6… (all of the seat's roots in one cut). By AI agents, Wed Nov 11 2026. No macro, syntax, notation, axiom, sorry.
-/
import Derived.Test.YtikfbfclbmlopaaChecked
import GoSem.Claim
import GoSem.ClaimJoined
import GoSem.ClaimMapViews
import Derived.JoinedTies
import Derived.KernelRfl
namespace Go.Proofs.Ytikfbfclbmlopaa
/- THE CELL 'sum', in the pinned program and in every row, IS THE sha256 OF THE DUMP (.gsa) THAT YtikfbfclbmlopaaProg.lean LOADS. Nothing in Lean hashes anything: it is a label: what it is worth is what the hold of that sum in a sandbox is worth. -/
noncomputable def Try.pinned : Pinned := { name := "ytikfbfclbmlopaa", sum := "55d10e62de5a28b63a40a7073e9ab7a5a4afd5f2766d6379b6971578f0eefd4d", checked := Try.checked }
namespace Rows
def none {H : Type} : Left H := { results := [], args := [] }

/-- 'laws.FnEdges': WHATEVER THE INPUT: true; the input reads as it did. -/
def fnEdgesSpec : ChangeSpec := { name := "fnEdges", fn := fun _ => fun
  | [d] => { results := [.lit (.bool true)], args := [d] }
  | _ => none }
def fnEdgesRow : OpenClaim := { program := "ytikfbfclbmlopaa", sum := "55d10e62de5a28b63a40a7073e9ab7a5a4afd5f2766d6379b6971578f0eefd4d", func := "loop.example/g00871/laws.FnEdges", spec := "fnEdges", recurses := true, apart := false }
def FnEdgesSaid : Prop := fnEdgesRow.holds Try.pinned (OpenSpec.ofChange fnEdgesSpec)

/-- ITS FALSE NEIGHBOUR: 'it returns false'. Refute it at one input. -/
def fnEdgesWrong : ChangeSpec := { name := "fnEdges", fn := fun _ => fun
  | [d] => { results := [.lit (.bool false)], args := [d] }
  | _ => none }
def FnEdgesWrongFalsely : Prop := fnEdgesRow.holds Try.pinned (OpenSpec.ofChange fnEdgesWrong)

/-- 'laws.FnSetsOk': WHATEVER THE INPUT: true; the input reads as it did. -/
def fnSetsOkSpec : ChangeSpec := { name := "fnSetsOk", fn := fun _ => fun
  | [d] => { results := [.lit (.bool true)], args := [d] }
  | _ => none }
def fnSetsOkRow : OpenClaim := { program := "ytikfbfclbmlopaa", sum := "55d10e62de5a28b63a40a7073e9ab7a5a4afd5f2766d6379b6971578f0eefd4d", func := "loop.example/g00871/laws.FnSetsOk", spec := "fnSetsOk", apart := false }
def FnSetsOkSaid : Prop := fnSetsOkRow.holds Try.pinned (OpenSpec.ofChange fnSetsOkSpec)

/-- ITS FALSE NEIGHBOUR: 'it returns false'. Refute it at one input. -/
def fnSetsOkWrong : ChangeSpec := { name := "fnSetsOk", fn := fun _ => fun
  | [d] => { results := [.lit (.bool false)], args := [d] }
  | _ => none }
def FnSetsOkWrongFalsely : Prop := fnSetsOkRow.holds Try.pinned (OpenSpec.ofChange fnSetsOkWrong)

/-- 'laws.FnUndone': WHATEVER THE INPUT: true; the input reads as it did. -/
def fnUndoneSpec : ChangeSpec := { name := "fnUndone", fn := fun _ => fun
  | [d] => { results := [.lit (.bool true)], args := [d] }
  | _ => none }
def fnUndoneRow : OpenClaim := { program := "ytikfbfclbmlopaa", sum := "55d10e62de5a28b63a40a7073e9ab7a5a4afd5f2766d6379b6971578f0eefd4d", func := "loop.example/g00871/laws.FnUndone", spec := "fnUndone", apart := false }
def FnUndoneSaid : Prop := fnUndoneRow.holds Try.pinned (OpenSpec.ofChange fnUndoneSpec)

/-- ITS FALSE NEIGHBOUR: 'it returns false'. Refute it at one input. -/
def fnUndoneWrong : ChangeSpec := { name := "fnUndone", fn := fun _ => fun
  | [d] => { results := [.lit (.bool false)], args := [d] }
  | _ => none }
def FnUndoneWrongFalsely : Prop := fnUndoneRow.holds Try.pinned (OpenSpec.ofChange fnUndoneWrong)

/-- 'laws.FnExactAddedEdge': WHATEVER THE INPUT: true; the input reads as it did. -/
def fnExactAddedEdgeSpec : ChangeSpec := { name := "fnExactAddedEdge", fn := fun _ => fun
  | [d1, d2, d3] => { results := [.lit (.bool true)], args := [d1, d2, d3] }
  | _ => none }
def fnExactAddedEdgeRow : OpenClaim := { program := "ytikfbfclbmlopaa", sum := "55d10e62de5a28b63a40a7073e9ab7a5a4afd5f2766d6379b6971578f0eefd4d", func := "loop.example/g00871/laws.FnExactAddedEdge", spec := "fnExactAddedEdge", apart := false }
def FnExactAddedEdgeSaid : Prop := fnExactAddedEdgeRow.holds Try.pinned (OpenSpec.ofChange fnExactAddedEdgeSpec)

/-- ITS FALSE NEIGHBOUR: 'it returns false'. Refute it at one input. -/
def fnExactAddedEdgeWrong : ChangeSpec := { name := "fnExactAddedEdge", fn := fun _ => fun
  | [d1, d2, d3] => { results := [.lit (.bool false)], args := [d1, d2, d3] }
  | _ => none }
def FnExactAddedEdgeWrongFalsely : Prop := fnExactAddedEdgeRow.holds Try.pinned (OpenSpec.ofChange fnExactAddedEdgeWrong)

/-- 'laws.FnExactCutEdge': WHATEVER THE INPUT: true; the input reads as it did. -/
def fnExactCutEdgeSpec : ChangeSpec := { name := "fnExactCutEdge", fn := fun _ => fun
  | [d1, d2, d3] => { results := [.lit (.bool true)], args := [d1, d2, d3] }
  | _ => none }
def fnExactCutEdgeRow : OpenClaim := { program := "ytikfbfclbmlopaa", sum := "55d10e62de5a28b63a40a7073e9ab7a5a4afd5f2766d6379b6971578f0eefd4d", func := "loop.example/g00871/laws.FnExactCutEdge", spec := "fnExactCutEdge", apart := false }
def FnExactCutEdgeSaid : Prop := fnExactCutEdgeRow.holds Try.pinned (OpenSpec.ofChange fnExactCutEdgeSpec)

/-- ITS FALSE NEIGHBOUR: 'it returns false'. Refute it at one input. -/
def fnExactCutEdgeWrong : ChangeSpec := { name := "fnExactCutEdge", fn := fun _ => fun
  | [d1, d2, d3] => { results := [.lit (.bool false)], args := [d1, d2, d3] }
  | _ => none }
def FnExactCutEdgeWrongFalsely : Prop := fnExactCutEdgeRow.holds Try.pinned (OpenSpec.ofChange fnExactCutEdgeWrong)

/-- 'laws.FnExactAddedVertex': WHATEVER THE INPUT: true; the input reads as it did. -/
def fnExactAddedVertexSpec : ChangeSpec := { name := "fnExactAddedVertex", fn := fun _ => fun
  | [d1, d2] => { results := [.lit (.bool true)], args := [d1, d2] }
  | _ => none }
def fnExactAddedVertexRow : OpenClaim := { program := "ytikfbfclbmlopaa", sum := "55d10e62de5a28b63a40a7073e9ab7a5a4afd5f2766d6379b6971578f0eefd4d", func := "loop.example/g00871/laws.FnExactAddedVertex", spec := "fnExactAddedVertex", apart := false }
def FnExactAddedVertexSaid : Prop := fnExactAddedVertexRow.holds Try.pinned (OpenSpec.ofChange fnExactAddedVertexSpec)

/-- ITS FALSE NEIGHBOUR: 'it returns false'. Refute it at one input. -/
def fnExactAddedVertexWrong : ChangeSpec := { name := "fnExactAddedVertex", fn := fun _ => fun
  | [d1, d2] => { results := [.lit (.bool false)], args := [d1, d2] }
  | _ => none }
def FnExactAddedVertexWrongFalsely : Prop := fnExactAddedVertexRow.holds Try.pinned (OpenSpec.ofChange fnExactAddedVertexWrong)

/-- 'laws.FnExactCutVertex': WHATEVER THE INPUT: true; the input reads as it did. -/
def fnExactCutVertexSpec : ChangeSpec := { name := "fnExactCutVertex", fn := fun _ => fun
  | [d1, d2] => { results := [.lit (.bool true)], args := [d1, d2] }
  | _ => none }
def fnExactCutVertexRow : OpenClaim := { program := "ytikfbfclbmlopaa", sum := "55d10e62de5a28b63a40a7073e9ab7a5a4afd5f2766d6379b6971578f0eefd4d", func := "loop.example/g00871/laws.FnExactCutVertex", spec := "fnExactCutVertex", apart := false }
def FnExactCutVertexSaid : Prop := fnExactCutVertexRow.holds Try.pinned (OpenSpec.ofChange fnExactCutVertexSpec)

/-- ITS FALSE NEIGHBOUR: 'it returns false'. Refute it at one input. -/
def fnExactCutVertexWrong : ChangeSpec := { name := "fnExactCutVertex", fn := fun _ => fun
  | [d1, d2] => { results := [.lit (.bool false)], args := [d1, d2] }
  | _ => none }
def FnExactCutVertexWrongFalsely : Prop := fnExactCutVertexRow.holds Try.pinned (OpenSpec.ofChange fnExactCutVertexWrong)

/-- 'laws.FnExactComplement': WHATEVER THE INPUT: true; the input reads as it did. -/
def fnExactComplementSpec : ChangeSpec := { name := "fnExactComplement", fn := fun _ => fun
  | [d] => { results := [.lit (.bool true)], args := [d] }
  | _ => none }
def fnExactComplementRow : OpenClaim := { program := "ytikfbfclbmlopaa", sum := "55d10e62de5a28b63a40a7073e9ab7a5a4afd5f2766d6379b6971578f0eefd4d", func := "loop.example/g00871/laws.FnExactComplement", spec := "fnExactComplement", apart := false }
def FnExactComplementSaid : Prop := fnExactComplementRow.holds Try.pinned (OpenSpec.ofChange fnExactComplementSpec)

/-- ITS FALSE NEIGHBOUR: 'it returns false'. Refute it at one input. -/
def fnExactComplementWrong : ChangeSpec := { name := "fnExactComplement", fn := fun _ => fun
  | [d] => { results := [.lit (.bool false)], args := [d] }
  | _ => none }
def FnExactComplementWrongFalsely : Prop := fnExactComplementRow.holds Try.pinned (OpenSpec.ofChange fnExactComplementWrong)

/-- 'laws.FnExactInduced': WHATEVER THE INPUT: true; the input reads as it did. -/
def fnExactInducedSpec : ChangeSpec := { name := "fnExactInduced", fn := fun _ => fun
  | [d1, d2] => { results := [.lit (.bool true)], args := [d1, d2] }
  | _ => none }
def fnExactInducedRow : OpenClaim := { program := "ytikfbfclbmlopaa", sum := "55d10e62de5a28b63a40a7073e9ab7a5a4afd5f2766d6379b6971578f0eefd4d", func := "loop.example/g00871/laws.FnExactInduced", spec := "fnExactInduced", apart := false }
def FnExactInducedSaid : Prop := fnExactInducedRow.holds Try.pinned (OpenSpec.ofChange fnExactInducedSpec)

/-- ITS FALSE NEIGHBOUR: 'it returns false'. Refute it at one input. -/
def fnExactInducedWrong : ChangeSpec := { name := "fnExactInduced", fn := fun _ => fun
  | [d1, d2] => { results := [.lit (.bool false)], args := [d1, d2] }
  | _ => none }
def FnExactInducedWrongFalsely : Prop := fnExactInducedRow.holds Try.pinned (OpenSpec.ofChange fnExactInducedWrong)

/-- 'laws.FnExactRenamed': WHATEVER THE INPUT: true; the input reads as it did. -/
def fnExactRenamedSpec : ChangeSpec := { name := "fnExactRenamed", fn := fun _ => fun
  | [d1, d2] => { results := [.lit (.bool true)], args := [d1, d2] }
  | _ => none }
def fnExactRenamedRow : OpenClaim := { program := "ytikfbfclbmlopaa", sum := "55d10e62de5a28b63a40a7073e9ab7a5a4afd5f2766d6379b6971578f0eefd4d", func := "loop.example/g00871/laws.FnExactRenamed", spec := "fnExactRenamed", apart := false }
def FnExactRenamedSaid : Prop := fnExactRenamedRow.holds Try.pinned (OpenSpec.ofChange fnExactRenamedSpec)

/-- ITS FALSE NEIGHBOUR: 'it returns false'. Refute it at one input. -/
def fnExactRenamedWrong : ChangeSpec := { name := "fnExactRenamed", fn := fun _ => fun
  | [d1, d2] => { results := [.lit (.bool false)], args := [d1, d2] }
  | _ => none }
def FnExactRenamedWrongFalsely : Prop := fnExactRenamedRow.holds Try.pinned (OpenSpec.ofChange fnExactRenamedWrong)

/-- 'laws.FnExactBeside': WHATEVER THE INPUT: true; the input reads as it did. -/
def fnExactBesideSpec : ChangeSpec := { name := "fnExactBeside", fn := fun _ => fun
  | [d1, d2] => { results := [.lit (.bool true)], args := [d1, d2] }
  | _ => none }
def fnExactBesideRow : OpenClaim := { program := "ytikfbfclbmlopaa", sum := "55d10e62de5a28b63a40a7073e9ab7a5a4afd5f2766d6379b6971578f0eefd4d", func := "loop.example/g00871/laws.FnExactBeside", spec := "fnExactBeside", apart := false }
def FnExactBesideSaid : Prop := fnExactBesideRow.holds Try.pinned (OpenSpec.ofChange fnExactBesideSpec)

/-- ITS FALSE NEIGHBOUR: 'it returns false'. Refute it at one input. -/
def fnExactBesideWrong : ChangeSpec := { name := "fnExactBeside", fn := fun _ => fun
  | [d1, d2] => { results := [.lit (.bool false)], args := [d1, d2] }
  | _ => none }
def FnExactBesideWrongFalsely : Prop := fnExactBesideRow.holds Try.pinned (OpenSpec.ofChange fnExactBesideWrong)

/-- 'laws.FnExactJoinedGraph': WHATEVER THE INPUT: true; the input reads as it did. -/
def fnExactJoinedGraphSpec : ChangeSpec := { name := "fnExactJoinedGraph", fn := fun _ => fun
  | [d1, d2] => { results := [.lit (.bool true)], args := [d1, d2] }
  | _ => none }
def fnExactJoinedGraphRow : OpenClaim := { program := "ytikfbfclbmlopaa", sum := "55d10e62de5a28b63a40a7073e9ab7a5a4afd5f2766d6379b6971578f0eefd4d", func := "loop.example/g00871/laws.FnExactJoinedGraph", spec := "fnExactJoinedGraph", apart := false }
def FnExactJoinedGraphSaid : Prop := fnExactJoinedGraphRow.holds Try.pinned (OpenSpec.ofChange fnExactJoinedGraphSpec)

/-- ITS FALSE NEIGHBOUR: 'it returns false'. Refute it at one input. -/
def fnExactJoinedGraphWrong : ChangeSpec := { name := "fnExactJoinedGraph", fn := fun _ => fun
  | [d1, d2] => { results := [.lit (.bool false)], args := [d1, d2] }
  | _ => none }
def FnExactJoinedGraphWrongFalsely : Prop := fnExactJoinedGraphRow.holds Try.pinned (OpenSpec.ofChange fnExactJoinedGraphWrong)

/-- 'laws.FnExactContracted': WHATEVER THE INPUT: true; the input reads as it did. -/
def fnExactContractedSpec : ChangeSpec := { name := "fnExactContracted", fn := fun _ => fun
  | [d1, d2, d3] => { results := [.lit (.bool true)], args := [d1, d2, d3] }
  | _ => none }
def fnExactContractedRow : OpenClaim := { program := "ytikfbfclbmlopaa", sum := "55d10e62de5a28b63a40a7073e9ab7a5a4afd5f2766d6379b6971578f0eefd4d", func := "loop.example/g00871/laws.FnExactContracted", spec := "fnExactContracted", apart := false }
def FnExactContractedSaid : Prop := fnExactContractedRow.holds Try.pinned (OpenSpec.ofChange fnExactContractedSpec)

/-- ITS FALSE NEIGHBOUR: 'it returns false'. Refute it at one input. -/
def fnExactContractedWrong : ChangeSpec := { name := "fnExactContracted", fn := fun _ => fun
  | [d1, d2, d3] => { results := [.lit (.bool false)], args := [d1, d2, d3] }
  | _ => none }
def FnExactContractedWrongFalsely : Prop := fnExactContractedRow.holds Try.pinned (OpenSpec.ofChange fnExactContractedWrong)

/- THE SECOND FORM. 'bulk': how many values and letters a reading holds, each counted each time it is reached (what is shared counts as often as it is met; a slice's spare places count too). A statement '..UptoSaid' is the law's where the arguments, and the package variables that the reading takes, are together of bulk at most 1048576: NARROWER than '..Said'. Prove '..Said' where nothing that the law and all that it calls make is longer than what came in: it says more and counts as full. Else prove '..UptoSaid'. A law counts once. -/
mutual
def uptoBulk {H : Type} : DataW H → Nat
  | .lit (.string bytes) => bytes.length + 1
  | .lit _ => 1
  | .nil => 1
  | .ptr d => uptoBulk d + 1
  | .slice elems spare => uptoBulkAll elems + uptoBulkAll spare + 1
  | .agg parts => uptoBulkAll parts + 1
  | .iface _ d => uptoBulk d + 1
  | .map entries => uptoBulkEntries entries + 1
  | .held _ => 1
def uptoBulkAll {H : Type} : List (DataW H) → Nat
  | [] => 0
  | d :: r => uptoBulk d + uptoBulkAll r
def uptoBulkEntries {H : Type} : List (Lit × DataW H) → Nat
  | [] => 0
  | x :: r => uptoBulkEntry x + uptoBulkEntries r
def uptoBulkEntry {H : Type} : Lit × DataW H → Nat
  | (.string bytes, d) => bytes.length + uptoBulk d + 1
  | (_, d) => uptoBulk d + 1
 end
def uptoSmall : (H : Type) → List (DataW H) → Bool := fun _ ds => decide (uptoBulkAll ds ≤ 1048576)
def OpenSpec.upto (s : _root_.Go.ChangeSpec) : _root_.Go.OpenSpec := { _root_.Go.OpenSpec.ofChange s with cond := some uptoSmall }

/-- 'laws.FnEdges', WHERE WHAT IT READS IS OF BULK AT MOST 1048576: true; the input reads as it did. -/
def fnEdgesUptoRow : OpenClaim := { program := "ytikfbfclbmlopaa", sum := "55d10e62de5a28b63a40a7073e9ab7a5a4afd5f2766d6379b6971578f0eefd4d", func := "loop.example/g00871/laws.FnEdges", spec := "fnEdges", recurses := true, apart := false, narrowed := true }
def FnEdgesUptoSaid : Prop := fnEdgesUptoRow.holds Try.pinned (OpenSpec.upto fnEdgesSpec)

/-- 'laws.FnSetsOk', WHERE WHAT IT READS IS OF BULK AT MOST 1048576: true; the input reads as it did. -/
def fnSetsOkUptoRow : OpenClaim := { program := "ytikfbfclbmlopaa", sum := "55d10e62de5a28b63a40a7073e9ab7a5a4afd5f2766d6379b6971578f0eefd4d", func := "loop.example/g00871/laws.FnSetsOk", spec := "fnSetsOk", apart := false, narrowed := true }
def FnSetsOkUptoSaid : Prop := fnSetsOkUptoRow.holds Try.pinned (OpenSpec.upto fnSetsOkSpec)

/-- 'laws.FnUndone', WHERE WHAT IT READS IS OF BULK AT MOST 1048576: true; the input reads as it did. -/
def fnUndoneUptoRow : OpenClaim := { program := "ytikfbfclbmlopaa", sum := "55d10e62de5a28b63a40a7073e9ab7a5a4afd5f2766d6379b6971578f0eefd4d", func := "loop.example/g00871/laws.FnUndone", spec := "fnUndone", apart := false, narrowed := true }
def FnUndoneUptoSaid : Prop := fnUndoneUptoRow.holds Try.pinned (OpenSpec.upto fnUndoneSpec)

/-- 'laws.FnExactAddedEdge', WHERE WHAT IT READS IS OF BULK AT MOST 1048576: true; the input reads as it did. -/
def fnExactAddedEdgeUptoRow : OpenClaim := { program := "ytikfbfclbmlopaa", sum := "55d10e62de5a28b63a40a7073e9ab7a5a4afd5f2766d6379b6971578f0eefd4d", func := "loop.example/g00871/laws.FnExactAddedEdge", spec := "fnExactAddedEdge", apart := false, narrowed := true }
def FnExactAddedEdgeUptoSaid : Prop := fnExactAddedEdgeUptoRow.holds Try.pinned (OpenSpec.upto fnExactAddedEdgeSpec)

/-- 'laws.FnExactCutEdge', WHERE WHAT IT READS IS OF BULK AT MOST 1048576: true; the input reads as it did. -/
def fnExactCutEdgeUptoRow : OpenClaim := { program := "ytikfbfclbmlopaa", sum := "55d10e62de5a28b63a40a7073e9ab7a5a4afd5f2766d6379b6971578f0eefd4d", func := "loop.example/g00871/laws.FnExactCutEdge", spec := "fnExactCutEdge", apart := false, narrowed := true }
def FnExactCutEdgeUptoSaid : Prop := fnExactCutEdgeUptoRow.holds Try.pinned (OpenSpec.upto fnExactCutEdgeSpec)

/-- 'laws.FnExactAddedVertex', WHERE WHAT IT READS IS OF BULK AT MOST 1048576: true; the input reads as it did. -/
def fnExactAddedVertexUptoRow : OpenClaim := { program := "ytikfbfclbmlopaa", sum := "55d10e62de5a28b63a40a7073e9ab7a5a4afd5f2766d6379b6971578f0eefd4d", func := "loop.example/g00871/laws.FnExactAddedVertex", spec := "fnExactAddedVertex", apart := false, narrowed := true }
def FnExactAddedVertexUptoSaid : Prop := fnExactAddedVertexUptoRow.holds Try.pinned (OpenSpec.upto fnExactAddedVertexSpec)

/-- 'laws.FnExactCutVertex', WHERE WHAT IT READS IS OF BULK AT MOST 1048576: true; the input reads as it did. -/
def fnExactCutVertexUptoRow : OpenClaim := { program := "ytikfbfclbmlopaa", sum := "55d10e62de5a28b63a40a7073e9ab7a5a4afd5f2766d6379b6971578f0eefd4d", func := "loop.example/g00871/laws.FnExactCutVertex", spec := "fnExactCutVertex", apart := false, narrowed := true }
def FnExactCutVertexUptoSaid : Prop := fnExactCutVertexUptoRow.holds Try.pinned (OpenSpec.upto fnExactCutVertexSpec)

/-- 'laws.FnExactComplement', WHERE WHAT IT READS IS OF BULK AT MOST 1048576: true; the input reads as it did. -/
def fnExactComplementUptoRow : OpenClaim := { program := "ytikfbfclbmlopaa", sum := "55d10e62de5a28b63a40a7073e9ab7a5a4afd5f2766d6379b6971578f0eefd4d", func := "loop.example/g00871/laws.FnExactComplement", spec := "fnExactComplement", apart := false, narrowed := true }
def FnExactComplementUptoSaid : Prop := fnExactComplementUptoRow.holds Try.pinned (OpenSpec.upto fnExactComplementSpec)

/-- 'laws.FnExactInduced', WHERE WHAT IT READS IS OF BULK AT MOST 1048576: true; the input reads as it did. -/
def fnExactInducedUptoRow : OpenClaim := { program := "ytikfbfclbmlopaa", sum := "55d10e62de5a28b63a40a7073e9ab7a5a4afd5f2766d6379b6971578f0eefd4d", func := "loop.example/g00871/laws.FnExactInduced", spec := "fnExactInduced", apart := false, narrowed := true }
def FnExactInducedUptoSaid : Prop := fnExactInducedUptoRow.holds Try.pinned (OpenSpec.upto fnExactInducedSpec)

/-- 'laws.FnExactRenamed', WHERE WHAT IT READS IS OF BULK AT MOST 1048576: true; the input reads as it did. -/
def fnExactRenamedUptoRow : OpenClaim := { program := "ytikfbfclbmlopaa", sum := "55d10e62de5a28b63a40a7073e9ab7a5a4afd5f2766d6379b6971578f0eefd4d", func := "loop.example/g00871/laws.FnExactRenamed", spec := "fnExactRenamed", apart := false, narrowed := true }
def FnExactRenamedUptoSaid : Prop := fnExactRenamedUptoRow.holds Try.pinned (OpenSpec.upto fnExactRenamedSpec)

/-- 'laws.FnExactBeside', WHERE WHAT IT READS IS OF BULK AT MOST 1048576: true; the input reads as it did. -/
def fnExactBesideUptoRow : OpenClaim := { program := "ytikfbfclbmlopaa", sum := "55d10e62de5a28b63a40a7073e9ab7a5a4afd5f2766d6379b6971578f0eefd4d", func := "loop.example/g00871/laws.FnExactBeside", spec := "fnExactBeside", apart := false, narrowed := true }
def FnExactBesideUptoSaid : Prop := fnExactBesideUptoRow.holds Try.pinned (OpenSpec.upto fnExactBesideSpec)

/-- 'laws.FnExactJoinedGraph', WHERE WHAT IT READS IS OF BULK AT MOST 1048576: true; the input reads as it did. -/
def fnExactJoinedGraphUptoRow : OpenClaim := { program := "ytikfbfclbmlopaa", sum := "55d10e62de5a28b63a40a7073e9ab7a5a4afd5f2766d6379b6971578f0eefd4d", func := "loop.example/g00871/laws.FnExactJoinedGraph", spec := "fnExactJoinedGraph", apart := false, narrowed := true }
def FnExactJoinedGraphUptoSaid : Prop := fnExactJoinedGraphUptoRow.holds Try.pinned (OpenSpec.upto fnExactJoinedGraphSpec)

/-- 'laws.FnExactContracted', WHERE WHAT IT READS IS OF BULK AT MOST 1048576: true; the input reads as it did. -/
def fnExactContractedUptoRow : OpenClaim := { program := "ytikfbfclbmlopaa", sum := "55d10e62de5a28b63a40a7073e9ab7a5a4afd5f2766d6379b6971578f0eefd4d", func := "loop.example/g00871/laws.FnExactContracted", spec := "fnExactContracted", apart := false, narrowed := true }
def FnExactContractedUptoSaid : Prop := fnExactContractedUptoRow.holds Try.pinned (OpenSpec.upto fnExactContractedSpec)

end Rows
end Go.Proofs.Ytikfbfclbmlopaa
