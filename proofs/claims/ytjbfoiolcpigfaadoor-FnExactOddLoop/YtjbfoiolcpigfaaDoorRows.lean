/-
  NARROWER THAN 'FOR EVERY INPUT', by the rows' own cells (each row's printed sentence says how): FnTogether: laid · FnContracted: laid · FnPaths: laid · FnParts: laid · FnSides: laid · FnLoops: laid · FnExactPathOf: laid · FnExactPartsOf: laid · FnExactConnectedIn: laid · FnExactSidesOf: laid · FnExactLeastLoop: laid · FnExactOddLoop: laid.
  DERIVED. THE GIVEN ROWS OF THIS SEAT. 12 by the template 'for every input the law returns true; each argument reads behind the call as it read before'; 0 by the template 'total and deterministic' (their statements: YtjbfoiolcpigfaaDoorTotals.lean).
  GIVEN WITH THE SEED: the statements are not yours to turn. If you find one false, say at which input.
  Laid BY PROGRAM, IN A SANDBOX (cutbox-rows.mjs): the forced cells as the released guide's own fill.sh prints them over the translation 2e52bba3dc8533cb… (all of the seat's roots in one cut). By AI agents, Wed Nov 11 2026. No macro, syntax, notation, axiom, sorry.
-/
import Derived.Test.YtjbfoiolcpigfaaDoorChecked
import GoSem.Claim
import GoSem.ClaimJoined
import GoSem.ClaimMapViews
import Derived.JoinedTies
import Derived.KernelRfl
namespace Go.Proofs.YtjbfoiolcpigfaaDoor
/- THE CELL 'sum', in the pinned program and in every row, IS THE sha256 OF THE DUMP (.gsa) THAT YtjbfoiolcpigfaaDoorProg.lean LOADS. Nothing in Lean hashes anything: it is a label: what it is worth is what the hold of that sum in a sandbox is worth. -/
noncomputable def Tryd.pinned : Pinned := { name := "ytjbfoiolcpigfaadoor", sum := "2e52bba3dc8533cb1818ffe18180815cf8bd69f3ed33de9660953565f4346e7e", checked := Tryd.checked }
namespace Rows
def none {H : Type} : Left H := { results := [], args := [] }

/- WHAT THE LISTED PACKAGE-LEVEL VARIABLES READ AS WHEN THE CALL BEGINS. Each datum BY PROGRAM (the guide's laid-datum.mjs) off the statement by which the dump's own 'gosem.cut.vars' lays the variable. In a bare row this is a premise. The card (YtjbfoiolcpigfaaDoorCards.lean) ties it to the program's text. -/
def laid_math_bits_deBruijn32tab {H : Type} : DataW H := .agg [.lit (.int .u8 0), .lit (.int .u8 1), .lit (.int .u8 28), .lit (.int .u8 2), .lit (.int .u8 29), .lit (.int .u8 14), .lit (.int .u8 24), .lit (.int .u8 3), .lit (.int .u8 30), .lit (.int .u8 22), .lit (.int .u8 20), .lit (.int .u8 15), .lit (.int .u8 25), .lit (.int .u8 17), .lit (.int .u8 4), .lit (.int .u8 8), .lit (.int .u8 31), .lit (.int .u8 27), .lit (.int .u8 13), .lit (.int .u8 23), .lit (.int .u8 21), .lit (.int .u8 19), .lit (.int .u8 16), .lit (.int .u8 7), .lit (.int .u8 26), .lit (.int .u8 12), .lit (.int .u8 18), .lit (.int .u8 6), .lit (.int .u8 11), .lit (.int .u8 5), .lit (.int .u8 10), .lit (.int .u8 9)]

/-- 'laws.FnTogether': WHATEVER THE INPUT: true; the input reads as it did. -/
def fnTogetherSpec : ChangeSpec := { name := "fnTogether", fn := fun _ => fun
  | [d] => { results := [.lit (.bool true)], args := [d] }
  | _ => none }
def fnTogetherRow : OpenClaim := { program := "ytjbfoiolcpigfaadoor", sum := "2e52bba3dc8533cb1818ffe18180815cf8bd69f3ed33de9660953565f4346e7e", func := "loop.example/g00871/laws.FnTogether", spec := "fnTogether", unfollowed := true, recurses := true, named := ["math/bits.deBruijn32tab"], apart := false, laid := [("math/bits.deBruijn32tab", laid_math_bits_deBruijn32tab)] }
def FnTogetherSaid : Prop := fnTogetherRow.holds Tryd.pinned (OpenSpec.ofChange fnTogetherSpec)

/-- ITS FALSE NEIGHBOUR: 'it returns false'. Refute it at one input. -/
def fnTogetherWrong : ChangeSpec := { name := "fnTogether", fn := fun _ => fun
  | [d] => { results := [.lit (.bool false)], args := [d] }
  | _ => none }
def FnTogetherWrongFalsely : Prop := fnTogetherRow.holds Tryd.pinned (OpenSpec.ofChange fnTogetherWrong)

/-- 'laws.FnContracted': WHATEVER THE INPUT: true; the input reads as it did. -/
def fnContractedSpec : ChangeSpec := { name := "fnContracted", fn := fun _ => fun
  | [d] => { results := [.lit (.bool true)], args := [d] }
  | _ => none }
def fnContractedRow : OpenClaim := { program := "ytjbfoiolcpigfaadoor", sum := "2e52bba3dc8533cb1818ffe18180815cf8bd69f3ed33de9660953565f4346e7e", func := "loop.example/g00871/laws.FnContracted", spec := "fnContracted", unfollowed := true, recurses := true, named := ["math/bits.deBruijn32tab"], apart := false, laid := [("math/bits.deBruijn32tab", laid_math_bits_deBruijn32tab)] }
def FnContractedSaid : Prop := fnContractedRow.holds Tryd.pinned (OpenSpec.ofChange fnContractedSpec)

/-- ITS FALSE NEIGHBOUR: 'it returns false'. Refute it at one input. -/
def fnContractedWrong : ChangeSpec := { name := "fnContracted", fn := fun _ => fun
  | [d] => { results := [.lit (.bool false)], args := [d] }
  | _ => none }
def FnContractedWrongFalsely : Prop := fnContractedRow.holds Tryd.pinned (OpenSpec.ofChange fnContractedWrong)

/-- 'laws.FnPaths': WHATEVER THE INPUT: true; the input reads as it did. -/
def fnPathsSpec : ChangeSpec := { name := "fnPaths", fn := fun _ => fun
  | [d] => { results := [.lit (.bool true)], args := [d] }
  | _ => none }
def fnPathsRow : OpenClaim := { program := "ytjbfoiolcpigfaadoor", sum := "2e52bba3dc8533cb1818ffe18180815cf8bd69f3ed33de9660953565f4346e7e", func := "loop.example/g00871/laws.FnPaths", spec := "fnPaths", unfollowed := true, recurses := true, named := ["math/bits.deBruijn32tab"], apart := false, laid := [("math/bits.deBruijn32tab", laid_math_bits_deBruijn32tab)] }
def FnPathsSaid : Prop := fnPathsRow.holds Tryd.pinned (OpenSpec.ofChange fnPathsSpec)

/-- ITS FALSE NEIGHBOUR: 'it returns false'. Refute it at one input. -/
def fnPathsWrong : ChangeSpec := { name := "fnPaths", fn := fun _ => fun
  | [d] => { results := [.lit (.bool false)], args := [d] }
  | _ => none }
def FnPathsWrongFalsely : Prop := fnPathsRow.holds Tryd.pinned (OpenSpec.ofChange fnPathsWrong)

/-- 'laws.FnParts': WHATEVER THE INPUT: true; the input reads as it did. -/
def fnPartsSpec : ChangeSpec := { name := "fnParts", fn := fun _ => fun
  | [d] => { results := [.lit (.bool true)], args := [d] }
  | _ => none }
def fnPartsRow : OpenClaim := { program := "ytjbfoiolcpigfaadoor", sum := "2e52bba3dc8533cb1818ffe18180815cf8bd69f3ed33de9660953565f4346e7e", func := "loop.example/g00871/laws.FnParts", spec := "fnParts", unfollowed := true, recurses := true, named := ["math/bits.deBruijn32tab"], apart := false, laid := [("math/bits.deBruijn32tab", laid_math_bits_deBruijn32tab)] }
def FnPartsSaid : Prop := fnPartsRow.holds Tryd.pinned (OpenSpec.ofChange fnPartsSpec)

/-- ITS FALSE NEIGHBOUR: 'it returns false'. Refute it at one input. -/
def fnPartsWrong : ChangeSpec := { name := "fnParts", fn := fun _ => fun
  | [d] => { results := [.lit (.bool false)], args := [d] }
  | _ => none }
def FnPartsWrongFalsely : Prop := fnPartsRow.holds Tryd.pinned (OpenSpec.ofChange fnPartsWrong)

/-- 'laws.FnSides': WHATEVER THE INPUT: true; the input reads as it did. -/
def fnSidesSpec : ChangeSpec := { name := "fnSides", fn := fun _ => fun
  | [d] => { results := [.lit (.bool true)], args := [d] }
  | _ => none }
def fnSidesRow : OpenClaim := { program := "ytjbfoiolcpigfaadoor", sum := "2e52bba3dc8533cb1818ffe18180815cf8bd69f3ed33de9660953565f4346e7e", func := "loop.example/g00871/laws.FnSides", spec := "fnSides", unfollowed := true, recurses := true, named := ["math/bits.deBruijn32tab"], apart := false, laid := [("math/bits.deBruijn32tab", laid_math_bits_deBruijn32tab)] }
def FnSidesSaid : Prop := fnSidesRow.holds Tryd.pinned (OpenSpec.ofChange fnSidesSpec)

/-- ITS FALSE NEIGHBOUR: 'it returns false'. Refute it at one input. -/
def fnSidesWrong : ChangeSpec := { name := "fnSides", fn := fun _ => fun
  | [d] => { results := [.lit (.bool false)], args := [d] }
  | _ => none }
def FnSidesWrongFalsely : Prop := fnSidesRow.holds Tryd.pinned (OpenSpec.ofChange fnSidesWrong)

/-- 'laws.FnLoops': WHATEVER THE INPUT: true; the input reads as it did. -/
def fnLoopsSpec : ChangeSpec := { name := "fnLoops", fn := fun _ => fun
  | [d] => { results := [.lit (.bool true)], args := [d] }
  | _ => none }
def fnLoopsRow : OpenClaim := { program := "ytjbfoiolcpigfaadoor", sum := "2e52bba3dc8533cb1818ffe18180815cf8bd69f3ed33de9660953565f4346e7e", func := "loop.example/g00871/laws.FnLoops", spec := "fnLoops", unfollowed := true, recurses := true, named := ["math/bits.deBruijn32tab"], apart := false, laid := [("math/bits.deBruijn32tab", laid_math_bits_deBruijn32tab)] }
def FnLoopsSaid : Prop := fnLoopsRow.holds Tryd.pinned (OpenSpec.ofChange fnLoopsSpec)

/-- ITS FALSE NEIGHBOUR: 'it returns false'. Refute it at one input. -/
def fnLoopsWrong : ChangeSpec := { name := "fnLoops", fn := fun _ => fun
  | [d] => { results := [.lit (.bool false)], args := [d] }
  | _ => none }
def FnLoopsWrongFalsely : Prop := fnLoopsRow.holds Tryd.pinned (OpenSpec.ofChange fnLoopsWrong)

/-- 'laws.FnExactPathOf': WHATEVER THE INPUT: true; the input reads as it did. -/
def fnExactPathOfSpec : ChangeSpec := { name := "fnExactPathOf", fn := fun _ => fun
  | [d1, d2, d3] => { results := [.lit (.bool true)], args := [d1, d2, d3] }
  | _ => none }
def fnExactPathOfRow : OpenClaim := { program := "ytjbfoiolcpigfaadoor", sum := "2e52bba3dc8533cb1818ffe18180815cf8bd69f3ed33de9660953565f4346e7e", func := "loop.example/g00871/laws.FnExactPathOf", spec := "fnExactPathOf", unfollowed := true, recurses := true, named := ["math/bits.deBruijn32tab"], apart := false, laid := [("math/bits.deBruijn32tab", laid_math_bits_deBruijn32tab)] }
def FnExactPathOfSaid : Prop := fnExactPathOfRow.holds Tryd.pinned (OpenSpec.ofChange fnExactPathOfSpec)

/-- ITS FALSE NEIGHBOUR: 'it returns false'. Refute it at one input. -/
def fnExactPathOfWrong : ChangeSpec := { name := "fnExactPathOf", fn := fun _ => fun
  | [d1, d2, d3] => { results := [.lit (.bool false)], args := [d1, d2, d3] }
  | _ => none }
def FnExactPathOfWrongFalsely : Prop := fnExactPathOfRow.holds Tryd.pinned (OpenSpec.ofChange fnExactPathOfWrong)

/-- 'laws.FnExactPartsOf': WHATEVER THE INPUT: true; the input reads as it did. -/
def fnExactPartsOfSpec : ChangeSpec := { name := "fnExactPartsOf", fn := fun _ => fun
  | [d] => { results := [.lit (.bool true)], args := [d] }
  | _ => none }
def fnExactPartsOfRow : OpenClaim := { program := "ytjbfoiolcpigfaadoor", sum := "2e52bba3dc8533cb1818ffe18180815cf8bd69f3ed33de9660953565f4346e7e", func := "loop.example/g00871/laws.FnExactPartsOf", spec := "fnExactPartsOf", unfollowed := true, recurses := true, named := ["math/bits.deBruijn32tab"], apart := false, laid := [("math/bits.deBruijn32tab", laid_math_bits_deBruijn32tab)] }
def FnExactPartsOfSaid : Prop := fnExactPartsOfRow.holds Tryd.pinned (OpenSpec.ofChange fnExactPartsOfSpec)

/-- ITS FALSE NEIGHBOUR: 'it returns false'. Refute it at one input. -/
def fnExactPartsOfWrong : ChangeSpec := { name := "fnExactPartsOf", fn := fun _ => fun
  | [d] => { results := [.lit (.bool false)], args := [d] }
  | _ => none }
def FnExactPartsOfWrongFalsely : Prop := fnExactPartsOfRow.holds Tryd.pinned (OpenSpec.ofChange fnExactPartsOfWrong)

/-- 'laws.FnExactConnectedIn': WHATEVER THE INPUT: true; the input reads as it did. -/
def fnExactConnectedInSpec : ChangeSpec := { name := "fnExactConnectedIn", fn := fun _ => fun
  | [d1, d2] => { results := [.lit (.bool true)], args := [d1, d2] }
  | _ => none }
def fnExactConnectedInRow : OpenClaim := { program := "ytjbfoiolcpigfaadoor", sum := "2e52bba3dc8533cb1818ffe18180815cf8bd69f3ed33de9660953565f4346e7e", func := "loop.example/g00871/laws.FnExactConnectedIn", spec := "fnExactConnectedIn", unfollowed := true, recurses := true, named := ["math/bits.deBruijn32tab"], apart := false, laid := [("math/bits.deBruijn32tab", laid_math_bits_deBruijn32tab)] }
def FnExactConnectedInSaid : Prop := fnExactConnectedInRow.holds Tryd.pinned (OpenSpec.ofChange fnExactConnectedInSpec)

/-- ITS FALSE NEIGHBOUR: 'it returns false'. Refute it at one input. -/
def fnExactConnectedInWrong : ChangeSpec := { name := "fnExactConnectedIn", fn := fun _ => fun
  | [d1, d2] => { results := [.lit (.bool false)], args := [d1, d2] }
  | _ => none }
def FnExactConnectedInWrongFalsely : Prop := fnExactConnectedInRow.holds Tryd.pinned (OpenSpec.ofChange fnExactConnectedInWrong)

/-- 'laws.FnExactSidesOf': WHATEVER THE INPUT: true; the input reads as it did. -/
def fnExactSidesOfSpec : ChangeSpec := { name := "fnExactSidesOf", fn := fun _ => fun
  | [d] => { results := [.lit (.bool true)], args := [d] }
  | _ => none }
def fnExactSidesOfRow : OpenClaim := { program := "ytjbfoiolcpigfaadoor", sum := "2e52bba3dc8533cb1818ffe18180815cf8bd69f3ed33de9660953565f4346e7e", func := "loop.example/g00871/laws.FnExactSidesOf", spec := "fnExactSidesOf", unfollowed := true, recurses := true, named := ["math/bits.deBruijn32tab"], apart := false, laid := [("math/bits.deBruijn32tab", laid_math_bits_deBruijn32tab)] }
def FnExactSidesOfSaid : Prop := fnExactSidesOfRow.holds Tryd.pinned (OpenSpec.ofChange fnExactSidesOfSpec)

/-- ITS FALSE NEIGHBOUR: 'it returns false'. Refute it at one input. -/
def fnExactSidesOfWrong : ChangeSpec := { name := "fnExactSidesOf", fn := fun _ => fun
  | [d] => { results := [.lit (.bool false)], args := [d] }
  | _ => none }
def FnExactSidesOfWrongFalsely : Prop := fnExactSidesOfRow.holds Tryd.pinned (OpenSpec.ofChange fnExactSidesOfWrong)

/-- 'laws.FnExactLeastLoop': WHATEVER THE INPUT: true; the input reads as it did. -/
def fnExactLeastLoopSpec : ChangeSpec := { name := "fnExactLeastLoop", fn := fun _ => fun
  | [d] => { results := [.lit (.bool true)], args := [d] }
  | _ => none }
def fnExactLeastLoopRow : OpenClaim := { program := "ytjbfoiolcpigfaadoor", sum := "2e52bba3dc8533cb1818ffe18180815cf8bd69f3ed33de9660953565f4346e7e", func := "loop.example/g00871/laws.FnExactLeastLoop", spec := "fnExactLeastLoop", unfollowed := true, recurses := true, named := ["math/bits.deBruijn32tab"], apart := false, laid := [("math/bits.deBruijn32tab", laid_math_bits_deBruijn32tab)] }
def FnExactLeastLoopSaid : Prop := fnExactLeastLoopRow.holds Tryd.pinned (OpenSpec.ofChange fnExactLeastLoopSpec)

/-- ITS FALSE NEIGHBOUR: 'it returns false'. Refute it at one input. -/
def fnExactLeastLoopWrong : ChangeSpec := { name := "fnExactLeastLoop", fn := fun _ => fun
  | [d] => { results := [.lit (.bool false)], args := [d] }
  | _ => none }
def FnExactLeastLoopWrongFalsely : Prop := fnExactLeastLoopRow.holds Tryd.pinned (OpenSpec.ofChange fnExactLeastLoopWrong)

/-- 'laws.FnExactOddLoop': WHATEVER THE INPUT: true; the input reads as it did. -/
def fnExactOddLoopSpec : ChangeSpec := { name := "fnExactOddLoop", fn := fun _ => fun
  | [d] => { results := [.lit (.bool true)], args := [d] }
  | _ => none }
def fnExactOddLoopRow : OpenClaim := { program := "ytjbfoiolcpigfaadoor", sum := "2e52bba3dc8533cb1818ffe18180815cf8bd69f3ed33de9660953565f4346e7e", func := "loop.example/g00871/laws.FnExactOddLoop", spec := "fnExactOddLoop", unfollowed := true, recurses := true, named := ["math/bits.deBruijn32tab"], apart := false, laid := [("math/bits.deBruijn32tab", laid_math_bits_deBruijn32tab)] }
def FnExactOddLoopSaid : Prop := fnExactOddLoopRow.holds Tryd.pinned (OpenSpec.ofChange fnExactOddLoopSpec)

/-- ITS FALSE NEIGHBOUR: 'it returns false'. Refute it at one input. -/
def fnExactOddLoopWrong : ChangeSpec := { name := "fnExactOddLoop", fn := fun _ => fun
  | [d] => { results := [.lit (.bool false)], args := [d] }
  | _ => none }
def FnExactOddLoopWrongFalsely : Prop := fnExactOddLoopRow.holds Tryd.pinned (OpenSpec.ofChange fnExactOddLoopWrong)

/- THE SECOND FORM. 'bulk': how many values and letters a reading holds, each counted each time it is reached (what is shared counts as often as it is met; a slice's spare places count too). A statement '..UptoSaid' is the law's where the arguments, and the package variables that the reading takes, are together of bulk at most 1048576: NARROWER than '..Said'. Prove '..Said' where nothing that the law and all that it calls make is longer than what came in: it says more and counts as full. Else prove '..UptoSaid'. A law counts once. -/
mutual
def uptoBulk {H : Type} : DataW H → Nat
  | .lit (.string bytes) => bytes.length + 1
  | .lit _ => 1
  | .nil => 1
  | .ptr d => uptoBulk d + 1
  | .slice elems spare => uptoBulkAll elems + uptoBulkAll spare + 1
  | .agg parts => uptoBulkAll parts + 1
  | .iface _ d => uptoBulk d + 1
  | .map entries => uptoBulkEntries entries + 1
  | .held _ => 1
def uptoBulkAll {H : Type} : List (DataW H) → Nat
  | [] => 0
  | d :: r => uptoBulk d + uptoBulkAll r
def uptoBulkEntries {H : Type} : List (Lit × DataW H) → Nat
  | [] => 0
  | x :: r => uptoBulkEntry x + uptoBulkEntries r
def uptoBulkEntry {H : Type} : Lit × DataW H → Nat
  | (.string bytes, d) => bytes.length + uptoBulk d + 1
  | (_, d) => uptoBulk d + 1
 end
def uptoSmall : (H : Type) → List (DataW H) → Bool := fun _ ds => decide (uptoBulkAll ds ≤ 1048576)
def OpenSpec.upto (s : _root_.Go.ChangeSpec) : _root_.Go.OpenSpec := { _root_.Go.OpenSpec.ofChange s with cond := some uptoSmall }

/-- 'laws.FnTogether', WHERE WHAT IT READS IS OF BULK AT MOST 1048576: true; the input reads as it did. -/
def fnTogetherUptoRow : OpenClaim := { program := "ytjbfoiolcpigfaadoor", sum := "2e52bba3dc8533cb1818ffe18180815cf8bd69f3ed33de9660953565f4346e7e", func := "loop.example/g00871/laws.FnTogether", spec := "fnTogether", unfollowed := true, recurses := true, named := ["math/bits.deBruijn32tab"], apart := false, laid := [("math/bits.deBruijn32tab", laid_math_bits_deBruijn32tab)], narrowed := true }
def FnTogetherUptoSaid : Prop := fnTogetherUptoRow.holds Tryd.pinned (OpenSpec.upto fnTogetherSpec)

/-- 'laws.FnContracted', WHERE WHAT IT READS IS OF BULK AT MOST 1048576: true; the input reads as it did. -/
def fnContractedUptoRow : OpenClaim := { program := "ytjbfoiolcpigfaadoor", sum := "2e52bba3dc8533cb1818ffe18180815cf8bd69f3ed33de9660953565f4346e7e", func := "loop.example/g00871/laws.FnContracted", spec := "fnContracted", unfollowed := true, recurses := true, named := ["math/bits.deBruijn32tab"], apart := false, laid := [("math/bits.deBruijn32tab", laid_math_bits_deBruijn32tab)], narrowed := true }
def FnContractedUptoSaid : Prop := fnContractedUptoRow.holds Tryd.pinned (OpenSpec.upto fnContractedSpec)

/-- 'laws.FnPaths', WHERE WHAT IT READS IS OF BULK AT MOST 1048576: true; the input reads as it did. -/
def fnPathsUptoRow : OpenClaim := { program := "ytjbfoiolcpigfaadoor", sum := "2e52bba3dc8533cb1818ffe18180815cf8bd69f3ed33de9660953565f4346e7e", func := "loop.example/g00871/laws.FnPaths", spec := "fnPaths", unfollowed := true, recurses := true, named := ["math/bits.deBruijn32tab"], apart := false, laid := [("math/bits.deBruijn32tab", laid_math_bits_deBruijn32tab)], narrowed := true }
def FnPathsUptoSaid : Prop := fnPathsUptoRow.holds Tryd.pinned (OpenSpec.upto fnPathsSpec)

/-- 'laws.FnParts', WHERE WHAT IT READS IS OF BULK AT MOST 1048576: true; the input reads as it did. -/
def fnPartsUptoRow : OpenClaim := { program := "ytjbfoiolcpigfaadoor", sum := "2e52bba3dc8533cb1818ffe18180815cf8bd69f3ed33de9660953565f4346e7e", func := "loop.example/g00871/laws.FnParts", spec := "fnParts", unfollowed := true, recurses := true, named := ["math/bits.deBruijn32tab"], apart := false, laid := [("math/bits.deBruijn32tab", laid_math_bits_deBruijn32tab)], narrowed := true }
def FnPartsUptoSaid : Prop := fnPartsUptoRow.holds Tryd.pinned (OpenSpec.upto fnPartsSpec)

/-- 'laws.FnSides', WHERE WHAT IT READS IS OF BULK AT MOST 1048576: true; the input reads as it did. -/
def fnSidesUptoRow : OpenClaim := { program := "ytjbfoiolcpigfaadoor", sum := "2e52bba3dc8533cb1818ffe18180815cf8bd69f3ed33de9660953565f4346e7e", func := "loop.example/g00871/laws.FnSides", spec := "fnSides", unfollowed := true, recurses := true, named := ["math/bits.deBruijn32tab"], apart := false, laid := [("math/bits.deBruijn32tab", laid_math_bits_deBruijn32tab)], narrowed := true }
def FnSidesUptoSaid : Prop := fnSidesUptoRow.holds Tryd.pinned (OpenSpec.upto fnSidesSpec)

/-- 'laws.FnLoops', WHERE WHAT IT READS IS OF BULK AT MOST 1048576: true; the input reads as it did. -/
def fnLoopsUptoRow : OpenClaim := { program := "ytjbfoiolcpigfaadoor", sum := "2e52bba3dc8533cb1818ffe18180815cf8bd69f3ed33de9660953565f4346e7e", func := "loop.example/g00871/laws.FnLoops", spec := "fnLoops", unfollowed := true, recurses := true, named := ["math/bits.deBruijn32tab"], apart := false, laid := [("math/bits.deBruijn32tab", laid_math_bits_deBruijn32tab)], narrowed := true }
def FnLoopsUptoSaid : Prop := fnLoopsUptoRow.holds Tryd.pinned (OpenSpec.upto fnLoopsSpec)

/-- 'laws.FnExactPathOf', WHERE WHAT IT READS IS OF BULK AT MOST 1048576: true; the input reads as it did. -/
def fnExactPathOfUptoRow : OpenClaim := { program := "ytjbfoiolcpigfaadoor", sum := "2e52bba3dc8533cb1818ffe18180815cf8bd69f3ed33de9660953565f4346e7e", func := "loop.example/g00871/laws.FnExactPathOf", spec := "fnExactPathOf", unfollowed := true, recurses := true, named := ["math/bits.deBruijn32tab"], apart := false, laid := [("math/bits.deBruijn32tab", laid_math_bits_deBruijn32tab)], narrowed := true }
def FnExactPathOfUptoSaid : Prop := fnExactPathOfUptoRow.holds Tryd.pinned (OpenSpec.upto fnExactPathOfSpec)

/-- 'laws.FnExactPartsOf', WHERE WHAT IT READS IS OF BULK AT MOST 1048576: true; the input reads as it did. -/
def fnExactPartsOfUptoRow : OpenClaim := { program := "ytjbfoiolcpigfaadoor", sum := "2e52bba3dc8533cb1818ffe18180815cf8bd69f3ed33de9660953565f4346e7e", func := "loop.example/g00871/laws.FnExactPartsOf", spec := "fnExactPartsOf", unfollowed := true, recurses := true, named := ["math/bits.deBruijn32tab"], apart := false, laid := [("math/bits.deBruijn32tab", laid_math_bits_deBruijn32tab)], narrowed := true }
def FnExactPartsOfUptoSaid : Prop := fnExactPartsOfUptoRow.holds Tryd.pinned (OpenSpec.upto fnExactPartsOfSpec)

/-- 'laws.FnExactConnectedIn', WHERE WHAT IT READS IS OF BULK AT MOST 1048576: true; the input reads as it did. -/
def fnExactConnectedInUptoRow : OpenClaim := { program := "ytjbfoiolcpigfaadoor", sum := "2e52bba3dc8533cb1818ffe18180815cf8bd69f3ed33de9660953565f4346e7e", func := "loop.example/g00871/laws.FnExactConnectedIn", spec := "fnExactConnectedIn", unfollowed := true, recurses := true, named := ["math/bits.deBruijn32tab"], apart := false, laid := [("math/bits.deBruijn32tab", laid_math_bits_deBruijn32tab)], narrowed := true }
def FnExactConnectedInUptoSaid : Prop := fnExactConnectedInUptoRow.holds Tryd.pinned (OpenSpec.upto fnExactConnectedInSpec)

/-- 'laws.FnExactSidesOf', WHERE WHAT IT READS IS OF BULK AT MOST 1048576: true; the input reads as it did. -/
def fnExactSidesOfUptoRow : OpenClaim := { program := "ytjbfoiolcpigfaadoor", sum := "2e52bba3dc8533cb1818ffe18180815cf8bd69f3ed33de9660953565f4346e7e", func := "loop.example/g00871/laws.FnExactSidesOf", spec := "fnExactSidesOf", unfollowed := true, recurses := true, named := ["math/bits.deBruijn32tab"], apart := false, laid := [("math/bits.deBruijn32tab", laid_math_bits_deBruijn32tab)], narrowed := true }
def FnExactSidesOfUptoSaid : Prop := fnExactSidesOfUptoRow.holds Tryd.pinned (OpenSpec.upto fnExactSidesOfSpec)

/-- 'laws.FnExactLeastLoop', WHERE WHAT IT READS IS OF BULK AT MOST 1048576: true; the input reads as it did. -/
def fnExactLeastLoopUptoRow : OpenClaim := { program := "ytjbfoiolcpigfaadoor", sum := "2e52bba3dc8533cb1818ffe18180815cf8bd69f3ed33de9660953565f4346e7e", func := "loop.example/g00871/laws.FnExactLeastLoop", spec := "fnExactLeastLoop", unfollowed := true, recurses := true, named := ["math/bits.deBruijn32tab"], apart := false, laid := [("math/bits.deBruijn32tab", laid_math_bits_deBruijn32tab)], narrowed := true }
def FnExactLeastLoopUptoSaid : Prop := fnExactLeastLoopUptoRow.holds Tryd.pinned (OpenSpec.upto fnExactLeastLoopSpec)

/-- 'laws.FnExactOddLoop', WHERE WHAT IT READS IS OF BULK AT MOST 1048576: true; the input reads as it did. -/
def fnExactOddLoopUptoRow : OpenClaim := { program := "ytjbfoiolcpigfaadoor", sum := "2e52bba3dc8533cb1818ffe18180815cf8bd69f3ed33de9660953565f4346e7e", func := "loop.example/g00871/laws.FnExactOddLoop", spec := "fnExactOddLoop", unfollowed := true, recurses := true, named := ["math/bits.deBruijn32tab"], apart := false, laid := [("math/bits.deBruijn32tab", laid_math_bits_deBruijn32tab)], narrowed := true }
def FnExactOddLoopUptoSaid : Prop := fnExactOddLoopUptoRow.holds Tryd.pinned (OpenSpec.upto fnExactOddLoopSpec)

end Rows
end Go.Proofs.YtjbfoiolcpigfaaDoor
