/-
  NARROWER THAN 'FOR EVERY INPUT', by the rows' own cells (each row's printed sentence says how): FnGraphTexts: laid · FnChordal: laid · FnBags: laid · FnCliqueTree: laid · FnExactTextGraph: laid · FnExactTidiedDecomp: laid · FnExactOrderBy: laid · FnExactCliqueTree: laid.
  DERIVED. THE GIVEN ROWS OF THIS SEAT. 8 by the template 'for every input the law returns true; each argument reads behind the call as it read before'; 0 by the template 'total and deterministic' (their statements: YtohjfcfcopbmoaaGreatDoorTotals.lean).
  GIVEN WITH THE SEED: the statements are not yours to turn. If you find one false, say at which input.
  Laid BY PROGRAM, IN A SANDBOX (cutbox-rows.mjs): the forced cells as the released guide's own fill.sh prints them over the translation 608a7e83f2cbf80e… (all of the seat's roots in one cut). By AI agents, Wed Nov 11 2026. No macro, syntax, notation, axiom, sorry.
-/
import Derived.Test.YtohjfcfcopbmoaaGreatDoorChecked
import GoSem.PinnedTables
import GoSem.Claim
import GoSem.ClaimJoined
import GoSem.ClaimMapViews
import Derived.JoinedTies
import Derived.KernelRfl
namespace Go.Proofs.YtohjfcfcopbmoaaGreatDoor
/- THE CELL 'sum', in the pinned program and in every row, IS THE sha256 OF THE DUMP (.gsa) THAT YtohjfcfcopbmoaaGreatDoorProg.lean LOADS. Nothing in Lean hashes anything: it is a label: what it is worth is what the hold of that sum in a sandbox is worth. -/
noncomputable def Tryz.pinned : Pinned := { name := "ytohjfcfcopbmoaagreatdoor", sum := "608a7e83f2cbf80e0ce4324b0234246ccb89e94f769a418d5fec7d4e572be12a", checked := Tryz.checked }
namespace Rows
def none {H : Type} : Left H := { results := [], args := [] }

/- WHAT THE LISTED PACKAGE-LEVEL VARIABLES READ AS WHEN THE CALL BEGINS. Each datum BY PROGRAM (the guide's laid-datum.mjs) off the statement by which the dump's own 'gosem.cut.vars' lays the variable. In a bare row this is a premise. The card (YtohjfcfcopbmoaaGreatDoorCards.lean) ties it to the program's text. -/
def laid_math_bits_deBruijn32tab {H : Type} : DataW H := .agg [.lit (.int .u8 0), .lit (.int .u8 1), .lit (.int .u8 28), .lit (.int .u8 2), .lit (.int .u8 29), .lit (.int .u8 14), .lit (.int .u8 24), .lit (.int .u8 3), .lit (.int .u8 30), .lit (.int .u8 22), .lit (.int .u8 20), .lit (.int .u8 15), .lit (.int .u8 25), .lit (.int .u8 17), .lit (.int .u8 4), .lit (.int .u8 8), .lit (.int .u8 31), .lit (.int .u8 27), .lit (.int .u8 13), .lit (.int .u8 23), .lit (.int .u8 21), .lit (.int .u8 19), .lit (.int .u8 16), .lit (.int .u8 7), .lit (.int .u8 26), .lit (.int .u8 12), .lit (.int .u8 18), .lit (.int .u8 6), .lit (.int .u8 11), .lit (.int .u8 5), .lit (.int .u8 10), .lit (.int .u8 9)]
def laid_math_bits_deBruijn64tab {H : Type} : DataW H := .agg [.lit (.int .u8 0), .lit (.int .u8 1), .lit (.int .u8 56), .lit (.int .u8 2), .lit (.int .u8 57), .lit (.int .u8 49), .lit (.int .u8 28), .lit (.int .u8 3), .lit (.int .u8 61), .lit (.int .u8 58), .lit (.int .u8 42), .lit (.int .u8 50), .lit (.int .u8 38), .lit (.int .u8 29), .lit (.int .u8 17), .lit (.int .u8 4), .lit (.int .u8 62), .lit (.int .u8 47), .lit (.int .u8 59), .lit (.int .u8 36), .lit (.int .u8 45), .lit (.int .u8 43), .lit (.int .u8 51), .lit (.int .u8 22), .lit (.int .u8 53), .lit (.int .u8 39), .lit (.int .u8 33), .lit (.int .u8 30), .lit (.int .u8 24), .lit (.int .u8 18), .lit (.int .u8 12), .lit (.int .u8 5), .lit (.int .u8 63), .lit (.int .u8 55), .lit (.int .u8 48), .lit (.int .u8 27), .lit (.int .u8 60), .lit (.int .u8 41), .lit (.int .u8 37), .lit (.int .u8 16), .lit (.int .u8 46), .lit (.int .u8 35), .lit (.int .u8 44), .lit (.int .u8 21), .lit (.int .u8 52), .lit (.int .u8 32), .lit (.int .u8 23), .lit (.int .u8 11), .lit (.int .u8 54), .lit (.int .u8 26), .lit (.int .u8 40), .lit (.int .u8 15), .lit (.int .u8 34), .lit (.int .u8 20), .lit (.int .u8 31), .lit (.int .u8 10), .lit (.int .u8 25), .lit (.int .u8 14), .lit (.int .u8 19), .lit (.int .u8 9), .lit (.int .u8 13), .lit (.int .u8 8), .lit (.int .u8 7), .lit (.int .u8 6)]
def laid_internal_strconv_uint64pow10 {H : Type} : DataW H := .agg [.lit (.int .u64 1), .lit (.int .u64 10), .lit (.int .u64 100), .lit (.int .u64 1000), .lit (.int .u64 10000), .lit (.int .u64 100000), .lit (.int .u64 1000000), .lit (.int .u64 10000000), .lit (.int .u64 100000000), .lit (.int .u64 1000000000), .lit (.int .u64 10000000000), .lit (.int .u64 100000000000), .lit (.int .u64 1000000000000), .lit (.int .u64 10000000000000), .lit (.int .u64 100000000000000), .lit (.int .u64 1000000000000000), .lit (.int .u64 10000000000000000), .lit (.int .u64 100000000000000000), .lit (.int .u64 1000000000000000000), .lit (.int .u64 10000000000000000000)]
def laid_unicode_utf8_acceptRanges {H : Type} : DataW H := .agg [.agg [.lit (.int .u8 128), .lit (.int .u8 191)], .agg [.lit (.int .u8 160), .lit (.int .u8 191)], .agg [.lit (.int .u8 128), .lit (.int .u8 159)], .agg [.lit (.int .u8 144), .lit (.int .u8 191)], .agg [.lit (.int .u8 128), .lit (.int .u8 143)], .agg [.lit (.int .u8 0), .lit (.int .u8 0)], .agg [.lit (.int .u8 0), .lit (.int .u8 0)], .agg [.lit (.int .u8 0), .lit (.int .u8 0)], .agg [.lit (.int .u8 0), .lit (.int .u8 0)], .agg [.lit (.int .u8 0), .lit (.int .u8 0)], .agg [.lit (.int .u8 0), .lit (.int .u8 0)], .agg [.lit (.int .u8 0), .lit (.int .u8 0)], .agg [.lit (.int .u8 0), .lit (.int .u8 0)], .agg [.lit (.int .u8 0), .lit (.int .u8 0)], .agg [.lit (.int .u8 0), .lit (.int .u8 0)], .agg [.lit (.int .u8 0), .lit (.int .u8 0)]]
def laid_strconv_ErrRange {H : Type} : DataW H := .iface "*errors.errorString" (.ptr (.agg [.lit (.string [118, 97, 108, 117, 101, 32, 111, 117, 116, 32, 111, 102, 32, 114, 97, 110, 103, 101])]))
def laid_strconv_ErrSyntax {H : Type} : DataW H := .iface "*errors.errorString" (.ptr (.agg [.lit (.string [105, 110, 118, 97, 108, 105, 100, 32, 115, 121, 110, 116, 97, 120])]))
/-- One of Go's own tables, pinned by name: the form's constant. -/
def laid_unicode_utf8_first : DataW Unit := Go.Pinned.utf8First

/-- 'laws.FnGraphTexts': WHATEVER THE INPUT: true; the input reads as it did. -/
def fnGraphTextsSpec : ChangeSpec := { name := "fnGraphTexts", fn := fun _ => fun
  | [d] => { results := [.lit (.bool true)], args := [d] }
  | _ => none }
def fnGraphTextsRow : OpenClaim := { program := "ytohjfcfcopbmoaagreatdoor", sum := "608a7e83f2cbf80e0ce4324b0234246ccb89e94f769a418d5fec7d4e572be12a", func := "loop.example/g00871/laws.FnGraphTexts", spec := "fnGraphTexts", inPlace := ["internal/abi.NoEscape", "internal/bytealg.MakeNoZero", "internal/bytealg.IndexByteString", "internal/bytealg.IndexString", "internal/bytealg.CountString"], unfollowed := true, recurses := true, named := ["internal/strconv.uint64pow10", "math/bits.deBruijn32tab", "math/bits.deBruijn64tab", "internal/bytealg.MaxLen", "strconv.ErrSyntax", "strconv.ErrRange", "unicode/utf8.first", "unicode/utf8.acceptRanges"], apart := false, laid := [("math/bits.deBruijn32tab", laid_math_bits_deBruijn32tab), ("math/bits.deBruijn64tab", laid_math_bits_deBruijn64tab), ("internal/strconv.uint64pow10", laid_internal_strconv_uint64pow10), ("unicode/utf8.acceptRanges", laid_unicode_utf8_acceptRanges), ("strconv.ErrRange", laid_strconv_ErrRange), ("strconv.ErrSyntax", laid_strconv_ErrSyntax), ("unicode/utf8.first", laid_unicode_utf8_first)] }
def FnGraphTextsSaid : Prop := fnGraphTextsRow.holds Tryz.pinned (OpenSpec.ofChange fnGraphTextsSpec)

/-- ITS FALSE NEIGHBOUR: 'it returns false'. Refute it at one input. -/
def fnGraphTextsWrong : ChangeSpec := { name := "fnGraphTexts", fn := fun _ => fun
  | [d] => { results := [.lit (.bool false)], args := [d] }
  | _ => none }
def FnGraphTextsWrongFalsely : Prop := fnGraphTextsRow.holds Tryz.pinned (OpenSpec.ofChange fnGraphTextsWrong)

/-- 'laws.FnChordal': WHATEVER THE INPUT: true; the input reads as it did. -/
def fnChordalSpec : ChangeSpec := { name := "fnChordal", fn := fun _ => fun
  | [d] => { results := [.lit (.bool true)], args := [d] }
  | _ => none }
def fnChordalRow : OpenClaim := { program := "ytohjfcfcopbmoaagreatdoor", sum := "608a7e83f2cbf80e0ce4324b0234246ccb89e94f769a418d5fec7d4e572be12a", func := "loop.example/g00871/laws.FnChordal", spec := "fnChordal", unfollowed := true, recurses := true, named := ["math/bits.deBruijn32tab"], apart := false, laid := [("math/bits.deBruijn32tab", laid_math_bits_deBruijn32tab)] }
def FnChordalSaid : Prop := fnChordalRow.holds Tryz.pinned (OpenSpec.ofChange fnChordalSpec)

/-- ITS FALSE NEIGHBOUR: 'it returns false'. Refute it at one input. -/
def fnChordalWrong : ChangeSpec := { name := "fnChordal", fn := fun _ => fun
  | [d] => { results := [.lit (.bool false)], args := [d] }
  | _ => none }
def FnChordalWrongFalsely : Prop := fnChordalRow.holds Tryz.pinned (OpenSpec.ofChange fnChordalWrong)

/-- 'laws.FnBags': WHATEVER THE INPUT: true; the input reads as it did. -/
def fnBagsSpec : ChangeSpec := { name := "fnBags", fn := fun _ => fun
  | [d] => { results := [.lit (.bool true)], args := [d] }
  | _ => none }
def fnBagsRow : OpenClaim := { program := "ytohjfcfcopbmoaagreatdoor", sum := "608a7e83f2cbf80e0ce4324b0234246ccb89e94f769a418d5fec7d4e572be12a", func := "loop.example/g00871/laws.FnBags", spec := "fnBags", unfollowed := true, recurses := true, named := ["math/bits.deBruijn32tab"], apart := false, laid := [("math/bits.deBruijn32tab", laid_math_bits_deBruijn32tab)] }
def FnBagsSaid : Prop := fnBagsRow.holds Tryz.pinned (OpenSpec.ofChange fnBagsSpec)

/-- ITS FALSE NEIGHBOUR: 'it returns false'. Refute it at one input. -/
def fnBagsWrong : ChangeSpec := { name := "fnBags", fn := fun _ => fun
  | [d] => { results := [.lit (.bool false)], args := [d] }
  | _ => none }
def FnBagsWrongFalsely : Prop := fnBagsRow.holds Tryz.pinned (OpenSpec.ofChange fnBagsWrong)

/-- 'laws.FnCliqueTree': WHATEVER THE INPUT: true; the input reads as it did. -/
def fnCliqueTreeSpec : ChangeSpec := { name := "fnCliqueTree", fn := fun _ => fun
  | [d] => { results := [.lit (.bool true)], args := [d] }
  | _ => none }
def fnCliqueTreeRow : OpenClaim := { program := "ytohjfcfcopbmoaagreatdoor", sum := "608a7e83f2cbf80e0ce4324b0234246ccb89e94f769a418d5fec7d4e572be12a", func := "loop.example/g00871/laws.FnCliqueTree", spec := "fnCliqueTree", unfollowed := true, recurses := true, named := ["math/bits.deBruijn32tab"], apart := false, laid := [("math/bits.deBruijn32tab", laid_math_bits_deBruijn32tab)] }
def FnCliqueTreeSaid : Prop := fnCliqueTreeRow.holds Tryz.pinned (OpenSpec.ofChange fnCliqueTreeSpec)

/-- ITS FALSE NEIGHBOUR: 'it returns false'. Refute it at one input. -/
def fnCliqueTreeWrong : ChangeSpec := { name := "fnCliqueTree", fn := fun _ => fun
  | [d] => { results := [.lit (.bool false)], args := [d] }
  | _ => none }
def FnCliqueTreeWrongFalsely : Prop := fnCliqueTreeRow.holds Tryz.pinned (OpenSpec.ofChange fnCliqueTreeWrong)

/-- 'laws.FnExactTextGraph': WHATEVER THE INPUT: true; the input reads as it did. -/
def fnExactTextGraphSpec : ChangeSpec := { name := "fnExactTextGraph", fn := fun _ => fun
  | [d] => { results := [.lit (.bool true)], args := [d] }
  | _ => none }
def fnExactTextGraphRow : OpenClaim := { program := "ytohjfcfcopbmoaagreatdoor", sum := "608a7e83f2cbf80e0ce4324b0234246ccb89e94f769a418d5fec7d4e572be12a", func := "loop.example/g00871/laws.FnExactTextGraph", spec := "fnExactTextGraph", inPlace := ["internal/bytealg.IndexByteString", "internal/bytealg.IndexString", "internal/bytealg.CountString", "internal/abi.NoEscape", "internal/bytealg.MakeNoZero"], named := ["internal/bytealg.MaxLen", "strconv.ErrSyntax", "strconv.ErrRange", "internal/strconv.uint64pow10", "math/bits.deBruijn32tab", "math/bits.deBruijn64tab", "unicode/utf8.first", "unicode/utf8.acceptRanges"], apart := false, laid := [("math/bits.deBruijn32tab", laid_math_bits_deBruijn32tab), ("math/bits.deBruijn64tab", laid_math_bits_deBruijn64tab), ("internal/strconv.uint64pow10", laid_internal_strconv_uint64pow10), ("unicode/utf8.acceptRanges", laid_unicode_utf8_acceptRanges), ("strconv.ErrRange", laid_strconv_ErrRange), ("strconv.ErrSyntax", laid_strconv_ErrSyntax), ("unicode/utf8.first", laid_unicode_utf8_first)] }
def FnExactTextGraphSaid : Prop := fnExactTextGraphRow.holds Tryz.pinned (OpenSpec.ofChange fnExactTextGraphSpec)

/-- ITS FALSE NEIGHBOUR: 'it returns false'. Refute it at one input. -/
def fnExactTextGraphWrong : ChangeSpec := { name := "fnExactTextGraph", fn := fun _ => fun
  | [d] => { results := [.lit (.bool false)], args := [d] }
  | _ => none }
def FnExactTextGraphWrongFalsely : Prop := fnExactTextGraphRow.holds Tryz.pinned (OpenSpec.ofChange fnExactTextGraphWrong)

/-- 'laws.FnExactTidiedDecomp': WHATEVER THE INPUT: true; the input reads as it did. -/
def fnExactTidiedDecompSpec : ChangeSpec := { name := "fnExactTidiedDecomp", fn := fun _ => fun
  | [d1, d2] => { results := [.lit (.bool true)], args := [d1, d2] }
  | _ => none }
def fnExactTidiedDecompRow : OpenClaim := { program := "ytohjfcfcopbmoaagreatdoor", sum := "608a7e83f2cbf80e0ce4324b0234246ccb89e94f769a418d5fec7d4e572be12a", func := "loop.example/g00871/laws.FnExactTidiedDecomp", spec := "fnExactTidiedDecomp", unfollowed := true, recurses := true, named := ["math/bits.deBruijn32tab"], apart := false, laid := [("math/bits.deBruijn32tab", laid_math_bits_deBruijn32tab)] }
def FnExactTidiedDecompSaid : Prop := fnExactTidiedDecompRow.holds Tryz.pinned (OpenSpec.ofChange fnExactTidiedDecompSpec)

/-- ITS FALSE NEIGHBOUR: 'it returns false'. Refute it at one input. -/
def fnExactTidiedDecompWrong : ChangeSpec := { name := "fnExactTidiedDecomp", fn := fun _ => fun
  | [d1, d2] => { results := [.lit (.bool false)], args := [d1, d2] }
  | _ => none }
def FnExactTidiedDecompWrongFalsely : Prop := fnExactTidiedDecompRow.holds Tryz.pinned (OpenSpec.ofChange fnExactTidiedDecompWrong)

/-- 'laws.FnExactOrderBy': WHATEVER THE INPUT: true; the input reads as it did. -/
def fnExactOrderBySpec : ChangeSpec := { name := "fnExactOrderBy", fn := fun _ => fun
  | [d1, d2] => { results := [.lit (.bool true)], args := [d1, d2] }
  | _ => none }
def fnExactOrderByRow : OpenClaim := { program := "ytohjfcfcopbmoaagreatdoor", sum := "608a7e83f2cbf80e0ce4324b0234246ccb89e94f769a418d5fec7d4e572be12a", func := "loop.example/g00871/laws.FnExactOrderBy", spec := "fnExactOrderBy", unfollowed := true, recurses := true, named := ["math/bits.deBruijn32tab"], apart := false, laid := [("math/bits.deBruijn32tab", laid_math_bits_deBruijn32tab)] }
def FnExactOrderBySaid : Prop := fnExactOrderByRow.holds Tryz.pinned (OpenSpec.ofChange fnExactOrderBySpec)

/-- ITS FALSE NEIGHBOUR: 'it returns false'. Refute it at one input. -/
def fnExactOrderByWrong : ChangeSpec := { name := "fnExactOrderBy", fn := fun _ => fun
  | [d1, d2] => { results := [.lit (.bool false)], args := [d1, d2] }
  | _ => none }
def FnExactOrderByWrongFalsely : Prop := fnExactOrderByRow.holds Tryz.pinned (OpenSpec.ofChange fnExactOrderByWrong)

/-- 'laws.FnExactCliqueTree': WHATEVER THE INPUT: true; the input reads as it did. -/
def fnExactCliqueTreeSpec : ChangeSpec := { name := "fnExactCliqueTree", fn := fun _ => fun
  | [d] => { results := [.lit (.bool true)], args := [d] }
  | _ => none }
def fnExactCliqueTreeRow : OpenClaim := { program := "ytohjfcfcopbmoaagreatdoor", sum := "608a7e83f2cbf80e0ce4324b0234246ccb89e94f769a418d5fec7d4e572be12a", func := "loop.example/g00871/laws.FnExactCliqueTree", spec := "fnExactCliqueTree", unfollowed := true, recurses := true, named := ["math/bits.deBruijn32tab"], apart := false, laid := [("math/bits.deBruijn32tab", laid_math_bits_deBruijn32tab)] }
def FnExactCliqueTreeSaid : Prop := fnExactCliqueTreeRow.holds Tryz.pinned (OpenSpec.ofChange fnExactCliqueTreeSpec)

/-- ITS FALSE NEIGHBOUR: 'it returns false'. Refute it at one input. -/
def fnExactCliqueTreeWrong : ChangeSpec := { name := "fnExactCliqueTree", fn := fun _ => fun
  | [d] => { results := [.lit (.bool false)], args := [d] }
  | _ => none }
def FnExactCliqueTreeWrongFalsely : Prop := fnExactCliqueTreeRow.holds Tryz.pinned (OpenSpec.ofChange fnExactCliqueTreeWrong)

/- THE SECOND FORM. 'bulk': how many values and letters a reading holds, each counted each time it is reached (what is shared counts as often as it is met; a slice's spare places count too). A statement '..UptoSaid' is the law's where the arguments, and the package variables that the reading takes, are together of bulk at most 1048576: NARROWER than '..Said'. Prove '..Said' where nothing that the law and all that it calls make is longer than what came in: it says more and counts as full. Else prove '..UptoSaid'. A law counts once. -/
mutual
def uptoBulk {H : Type} : DataW H → Nat
  | .lit (.string bytes) => bytes.length + 1
  | .lit _ => 1
  | .nil => 1
  | .ptr d => uptoBulk d + 1
  | .slice elems spare => uptoBulkAll elems + uptoBulkAll spare + 1
  | .agg parts => uptoBulkAll parts + 1
  | .iface _ d => uptoBulk d + 1
  | .map entries => uptoBulkEntries entries + 1
  | .held _ => 1
def uptoBulkAll {H : Type} : List (DataW H) → Nat
  | [] => 0
  | d :: r => uptoBulk d + uptoBulkAll r
def uptoBulkEntries {H : Type} : List (Lit × DataW H) → Nat
  | [] => 0
  | x :: r => uptoBulkEntry x + uptoBulkEntries r
def uptoBulkEntry {H : Type} : Lit × DataW H → Nat
  | (.string bytes, d) => bytes.length + uptoBulk d + 1
  | (_, d) => uptoBulk d + 1
 end
def uptoSmall : (H : Type) → List (DataW H) → Bool := fun _ ds => decide (uptoBulkAll ds ≤ 1048576)
def OpenSpec.upto (s : _root_.Go.ChangeSpec) : _root_.Go.OpenSpec := { _root_.Go.OpenSpec.ofChange s with cond := some uptoSmall }

/-- 'laws.FnGraphTexts', WHERE WHAT IT READS IS OF BULK AT MOST 1048576: true; the input reads as it did. -/
def fnGraphTextsUptoRow : OpenClaim := { program := "ytohjfcfcopbmoaagreatdoor", sum := "608a7e83f2cbf80e0ce4324b0234246ccb89e94f769a418d5fec7d4e572be12a", func := "loop.example/g00871/laws.FnGraphTexts", spec := "fnGraphTexts", inPlace := ["internal/abi.NoEscape", "internal/bytealg.MakeNoZero", "internal/bytealg.IndexByteString", "internal/bytealg.IndexString", "internal/bytealg.CountString"], unfollowed := true, recurses := true, named := ["internal/strconv.uint64pow10", "math/bits.deBruijn32tab", "math/bits.deBruijn64tab", "internal/bytealg.MaxLen", "strconv.ErrSyntax", "strconv.ErrRange", "unicode/utf8.first", "unicode/utf8.acceptRanges"], apart := false, laid := [("math/bits.deBruijn32tab", laid_math_bits_deBruijn32tab), ("math/bits.deBruijn64tab", laid_math_bits_deBruijn64tab), ("internal/strconv.uint64pow10", laid_internal_strconv_uint64pow10), ("unicode/utf8.acceptRanges", laid_unicode_utf8_acceptRanges), ("strconv.ErrRange", laid_strconv_ErrRange), ("strconv.ErrSyntax", laid_strconv_ErrSyntax), ("unicode/utf8.first", laid_unicode_utf8_first)], narrowed := true }
def FnGraphTextsUptoSaid : Prop := fnGraphTextsUptoRow.holds Tryz.pinned (OpenSpec.upto fnGraphTextsSpec)

/-- 'laws.FnChordal', WHERE WHAT IT READS IS OF BULK AT MOST 1048576: true; the input reads as it did. -/
def fnChordalUptoRow : OpenClaim := { program := "ytohjfcfcopbmoaagreatdoor", sum := "608a7e83f2cbf80e0ce4324b0234246ccb89e94f769a418d5fec7d4e572be12a", func := "loop.example/g00871/laws.FnChordal", spec := "fnChordal", unfollowed := true, recurses := true, named := ["math/bits.deBruijn32tab"], apart := false, laid := [("math/bits.deBruijn32tab", laid_math_bits_deBruijn32tab)], narrowed := true }
def FnChordalUptoSaid : Prop := fnChordalUptoRow.holds Tryz.pinned (OpenSpec.upto fnChordalSpec)

/-- 'laws.FnBags', WHERE WHAT IT READS IS OF BULK AT MOST 1048576: true; the input reads as it did. -/
def fnBagsUptoRow : OpenClaim := { program := "ytohjfcfcopbmoaagreatdoor", sum := "608a7e83f2cbf80e0ce4324b0234246ccb89e94f769a418d5fec7d4e572be12a", func := "loop.example/g00871/laws.FnBags", spec := "fnBags", unfollowed := true, recurses := true, named := ["math/bits.deBruijn32tab"], apart := false, laid := [("math/bits.deBruijn32tab", laid_math_bits_deBruijn32tab)], narrowed := true }
def FnBagsUptoSaid : Prop := fnBagsUptoRow.holds Tryz.pinned (OpenSpec.upto fnBagsSpec)

/-- 'laws.FnCliqueTree', WHERE WHAT IT READS IS OF BULK AT MOST 1048576: true; the input reads as it did. -/
def fnCliqueTreeUptoRow : OpenClaim := { program := "ytohjfcfcopbmoaagreatdoor", sum := "608a7e83f2cbf80e0ce4324b0234246ccb89e94f769a418d5fec7d4e572be12a", func := "loop.example/g00871/laws.FnCliqueTree", spec := "fnCliqueTree", unfollowed := true, recurses := true, named := ["math/bits.deBruijn32tab"], apart := false, laid := [("math/bits.deBruijn32tab", laid_math_bits_deBruijn32tab)], narrowed := true }
def FnCliqueTreeUptoSaid : Prop := fnCliqueTreeUptoRow.holds Tryz.pinned (OpenSpec.upto fnCliqueTreeSpec)

/-- 'laws.FnExactTextGraph', WHERE WHAT IT READS IS OF BULK AT MOST 1048576: true; the input reads as it did. -/
def fnExactTextGraphUptoRow : OpenClaim := { program := "ytohjfcfcopbmoaagreatdoor", sum := "608a7e83f2cbf80e0ce4324b0234246ccb89e94f769a418d5fec7d4e572be12a", func := "loop.example/g00871/laws.FnExactTextGraph", spec := "fnExactTextGraph", inPlace := ["internal/bytealg.IndexByteString", "internal/bytealg.IndexString", "internal/bytealg.CountString", "internal/abi.NoEscape", "internal/bytealg.MakeNoZero"], named := ["internal/bytealg.MaxLen", "strconv.ErrSyntax", "strconv.ErrRange", "internal/strconv.uint64pow10", "math/bits.deBruijn32tab", "math/bits.deBruijn64tab", "unicode/utf8.first", "unicode/utf8.acceptRanges"], apart := false, laid := [("math/bits.deBruijn32tab", laid_math_bits_deBruijn32tab), ("math/bits.deBruijn64tab", laid_math_bits_deBruijn64tab), ("internal/strconv.uint64pow10", laid_internal_strconv_uint64pow10), ("unicode/utf8.acceptRanges", laid_unicode_utf8_acceptRanges), ("strconv.ErrRange", laid_strconv_ErrRange), ("strconv.ErrSyntax", laid_strconv_ErrSyntax), ("unicode/utf8.first", laid_unicode_utf8_first)], narrowed := true }
def FnExactTextGraphUptoSaid : Prop := fnExactTextGraphUptoRow.holds Tryz.pinned (OpenSpec.upto fnExactTextGraphSpec)

/-- 'laws.FnExactTidiedDecomp', WHERE WHAT IT READS IS OF BULK AT MOST 1048576: true; the input reads as it did. -/
def fnExactTidiedDecompUptoRow : OpenClaim := { program := "ytohjfcfcopbmoaagreatdoor", sum := "608a7e83f2cbf80e0ce4324b0234246ccb89e94f769a418d5fec7d4e572be12a", func := "loop.example/g00871/laws.FnExactTidiedDecomp", spec := "fnExactTidiedDecomp", unfollowed := true, recurses := true, named := ["math/bits.deBruijn32tab"], apart := false, laid := [("math/bits.deBruijn32tab", laid_math_bits_deBruijn32tab)], narrowed := true }
def FnExactTidiedDecompUptoSaid : Prop := fnExactTidiedDecompUptoRow.holds Tryz.pinned (OpenSpec.upto fnExactTidiedDecompSpec)

/-- 'laws.FnExactOrderBy', WHERE WHAT IT READS IS OF BULK AT MOST 1048576: true; the input reads as it did. -/
def fnExactOrderByUptoRow : OpenClaim := { program := "ytohjfcfcopbmoaagreatdoor", sum := "608a7e83f2cbf80e0ce4324b0234246ccb89e94f769a418d5fec7d4e572be12a", func := "loop.example/g00871/laws.FnExactOrderBy", spec := "fnExactOrderBy", unfollowed := true, recurses := true, named := ["math/bits.deBruijn32tab"], apart := false, laid := [("math/bits.deBruijn32tab", laid_math_bits_deBruijn32tab)], narrowed := true }
def FnExactOrderByUptoSaid : Prop := fnExactOrderByUptoRow.holds Tryz.pinned (OpenSpec.upto fnExactOrderBySpec)

/-- 'laws.FnExactCliqueTree', WHERE WHAT IT READS IS OF BULK AT MOST 1048576: true; the input reads as it did. -/
def fnExactCliqueTreeUptoRow : OpenClaim := { program := "ytohjfcfcopbmoaagreatdoor", sum := "608a7e83f2cbf80e0ce4324b0234246ccb89e94f769a418d5fec7d4e572be12a", func := "loop.example/g00871/laws.FnExactCliqueTree", spec := "fnExactCliqueTree", unfollowed := true, recurses := true, named := ["math/bits.deBruijn32tab"], apart := false, laid := [("math/bits.deBruijn32tab", laid_math_bits_deBruijn32tab)], narrowed := true }
def FnExactCliqueTreeUptoSaid : Prop := fnExactCliqueTreeUptoRow.holds Tryz.pinned (OpenSpec.upto fnExactCliqueTreeSpec)

end Rows
end Go.Proofs.YtohjfcfcopbmoaaGreatDoor
