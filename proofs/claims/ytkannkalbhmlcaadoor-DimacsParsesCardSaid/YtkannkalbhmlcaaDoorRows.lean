/-
  NARROWER THAN 'FOR EVERY INPUT', by the rows' own cells (each row's printed sentence says how): DimacsFormats: laid · DimacsParses: laid · DimacsNames: laid · DimacsBack: laid · DimacsValid: laid · DimacsBlank: laid · DimacsSame: laid · DimacsEnds: laid.
  DERIVED. THE GIVEN ROWS OF THIS SEAT. 8 by the template 'for every input the law returns true; each argument reads behind the call as it read before'; 0 by the template 'total and deterministic' (their statements: YtkannkalbhmlcaaDoorTotals.lean).
  GIVEN WITH THE SEED: the statements are not yours to turn. If you find one false, say at which input.
  Laid BY PROGRAM, IN A SANDBOX (cutbox-rows.mjs): the forced cells as the released guide's own fill.sh prints them over the translation b5857a0255cbd3db… (all of the seat's roots in one cut). By AI agents, Wed Nov 11 2026. No macro, syntax, notation, axiom, sorry.
-/
import Derived.Test.YtkannkalbhmlcaaDoorChecked
import GoSem.Claim
import GoSem.ClaimJoined
import GoSem.ClaimMapViews
import Derived.JoinedTies
import Derived.KernelRfl
namespace Go.Proofs.YtkannkalbhmlcaaDoor
/- THE CELL 'sum', in the pinned program and in every row, IS THE sha256 OF THE DUMP (.gsa) THAT YtkannkalbhmlcaaDoorProg.lean LOADS. Nothing in Lean hashes anything: it is a label: what it is worth is what the hold of that sum in a sandbox is worth. -/
noncomputable def Tryd.pinned : Pinned := { name := "ytkannkalbhmlcaadoor", sum := "b5857a0255cbd3db2a11fdd7aa33df7465306c90fdfc2f03595916f82af3e55b", checked := Tryd.checked }
namespace Rows
def none {H : Type} : Left H := { results := [], args := [] }

/- WHAT THE LISTED PACKAGE-LEVEL VARIABLES READ AS WHEN THE CALL BEGINS. Each datum BY PROGRAM (the guide's laid-datum.mjs) off the statement by which the dump's own 'gosem.cut.vars' lays the variable. In a bare row this is a premise. The card (YtkannkalbhmlcaaDoorCards.lean) ties it to the program's text. -/
def laid_math_bits_deBruijn32tab {H : Type} : DataW H := .agg [.lit (.int .u8 0), .lit (.int .u8 1), .lit (.int .u8 28), .lit (.int .u8 2), .lit (.int .u8 29), .lit (.int .u8 14), .lit (.int .u8 24), .lit (.int .u8 3), .lit (.int .u8 30), .lit (.int .u8 22), .lit (.int .u8 20), .lit (.int .u8 15), .lit (.int .u8 25), .lit (.int .u8 17), .lit (.int .u8 4), .lit (.int .u8 8), .lit (.int .u8 31), .lit (.int .u8 27), .lit (.int .u8 13), .lit (.int .u8 23), .lit (.int .u8 21), .lit (.int .u8 19), .lit (.int .u8 16), .lit (.int .u8 7), .lit (.int .u8 26), .lit (.int .u8 12), .lit (.int .u8 18), .lit (.int .u8 6), .lit (.int .u8 11), .lit (.int .u8 5), .lit (.int .u8 10), .lit (.int .u8 9)]
def laid_math_bits_deBruijn64tab {H : Type} : DataW H := .agg [.lit (.int .u8 0), .lit (.int .u8 1), .lit (.int .u8 56), .lit (.int .u8 2), .lit (.int .u8 57), .lit (.int .u8 49), .lit (.int .u8 28), .lit (.int .u8 3), .lit (.int .u8 61), .lit (.int .u8 58), .lit (.int .u8 42), .lit (.int .u8 50), .lit (.int .u8 38), .lit (.int .u8 29), .lit (.int .u8 17), .lit (.int .u8 4), .lit (.int .u8 62), .lit (.int .u8 47), .lit (.int .u8 59), .lit (.int .u8 36), .lit (.int .u8 45), .lit (.int .u8 43), .lit (.int .u8 51), .lit (.int .u8 22), .lit (.int .u8 53), .lit (.int .u8 39), .lit (.int .u8 33), .lit (.int .u8 30), .lit (.int .u8 24), .lit (.int .u8 18), .lit (.int .u8 12), .lit (.int .u8 5), .lit (.int .u8 63), .lit (.int .u8 55), .lit (.int .u8 48), .lit (.int .u8 27), .lit (.int .u8 60), .lit (.int .u8 41), .lit (.int .u8 37), .lit (.int .u8 16), .lit (.int .u8 46), .lit (.int .u8 35), .lit (.int .u8 44), .lit (.int .u8 21), .lit (.int .u8 52), .lit (.int .u8 32), .lit (.int .u8 23), .lit (.int .u8 11), .lit (.int .u8 54), .lit (.int .u8 26), .lit (.int .u8 40), .lit (.int .u8 15), .lit (.int .u8 34), .lit (.int .u8 20), .lit (.int .u8 31), .lit (.int .u8 10), .lit (.int .u8 25), .lit (.int .u8 14), .lit (.int .u8 19), .lit (.int .u8 9), .lit (.int .u8 13), .lit (.int .u8 8), .lit (.int .u8 7), .lit (.int .u8 6)]
def laid_internal_strconv_uint64pow10 {H : Type} : DataW H := .agg [.lit (.int .u64 1), .lit (.int .u64 10), .lit (.int .u64 100), .lit (.int .u64 1000), .lit (.int .u64 10000), .lit (.int .u64 100000), .lit (.int .u64 1000000), .lit (.int .u64 10000000), .lit (.int .u64 100000000), .lit (.int .u64 1000000000), .lit (.int .u64 10000000000), .lit (.int .u64 100000000000), .lit (.int .u64 1000000000000), .lit (.int .u64 10000000000000), .lit (.int .u64 100000000000000), .lit (.int .u64 1000000000000000), .lit (.int .u64 10000000000000000), .lit (.int .u64 100000000000000000), .lit (.int .u64 1000000000000000000), .lit (.int .u64 10000000000000000000)]

/-- 'weepholelaw03.DimacsFormats': WHATEVER THE INPUT: true; the input reads as it did. -/
def dimacsFormatsSpec : ChangeSpec := { name := "dimacsFormats", fn := fun _ => fun
  | [d] => { results := [.lit (.bool true)], args := [d] }
  | _ => none }
def dimacsFormatsRow : OpenClaim := { program := "ytkannkalbhmlcaadoor", sum := "b5857a0255cbd3db2a11fdd7aa33df7465306c90fdfc2f03595916f82af3e55b", func := "weephole/weepholelaw03.DimacsFormats", spec := "dimacsFormats", inPlace := ["internal/bytealg.IndexByteString", "internal/bytealg.IndexString", "internal/bytealg.CountString"], unfollowed := true, recurses := true, named := ["internal/strconv.uint64pow10", "math/bits.deBruijn32tab", "math/bits.deBruijn64tab", "internal/bytealg.MaxLen"], apart := false, laid := [("math/bits.deBruijn32tab", laid_math_bits_deBruijn32tab), ("math/bits.deBruijn64tab", laid_math_bits_deBruijn64tab), ("internal/strconv.uint64pow10", laid_internal_strconv_uint64pow10)] }
def DimacsFormatsSaid : Prop := dimacsFormatsRow.holds Tryd.pinned (OpenSpec.ofChange dimacsFormatsSpec)

/-- ITS FALSE NEIGHBOUR: 'it returns false'. Refute it at one input. -/
def dimacsFormatsWrong : ChangeSpec := { name := "dimacsFormats", fn := fun _ => fun
  | [d] => { results := [.lit (.bool false)], args := [d] }
  | _ => none }
def DimacsFormatsWrongFalsely : Prop := dimacsFormatsRow.holds Tryd.pinned (OpenSpec.ofChange dimacsFormatsWrong)

/-- 'weepholelaw03.DimacsParses': WHATEVER THE INPUT: true; the input reads as it did. -/
def dimacsParsesSpec : ChangeSpec := { name := "dimacsParses", fn := fun _ => fun
  | [d] => { results := [.lit (.bool true)], args := [d] }
  | _ => none }
def dimacsParsesRow : OpenClaim := { program := "ytkannkalbhmlcaadoor", sum := "b5857a0255cbd3db2a11fdd7aa33df7465306c90fdfc2f03595916f82af3e55b", func := "weephole/weepholelaw03.DimacsParses", spec := "dimacsParses", inPlace := ["internal/bytealg.IndexByteString", "internal/bytealg.IndexString", "internal/bytealg.CountString"], unfollowed := true, recurses := true, named := ["internal/strconv.uint64pow10", "math/bits.deBruijn32tab", "math/bits.deBruijn64tab", "internal/bytealg.MaxLen"], apart := false, laid := [("math/bits.deBruijn32tab", laid_math_bits_deBruijn32tab), ("math/bits.deBruijn64tab", laid_math_bits_deBruijn64tab), ("internal/strconv.uint64pow10", laid_internal_strconv_uint64pow10)] }
def DimacsParsesSaid : Prop := dimacsParsesRow.holds Tryd.pinned (OpenSpec.ofChange dimacsParsesSpec)

/-- ITS FALSE NEIGHBOUR: 'it returns false'. Refute it at one input. -/
def dimacsParsesWrong : ChangeSpec := { name := "dimacsParses", fn := fun _ => fun
  | [d] => { results := [.lit (.bool false)], args := [d] }
  | _ => none }
def DimacsParsesWrongFalsely : Prop := dimacsParsesRow.holds Tryd.pinned (OpenSpec.ofChange dimacsParsesWrong)

/-- 'weepholelaw03.DimacsNames': WHATEVER THE INPUT: true; the input reads as it did. -/
def dimacsNamesSpec : ChangeSpec := { name := "dimacsNames", fn := fun _ => fun
  | [] => { results := [.lit (.bool true)], args := [] }
  | _ => none }
def dimacsNamesRow : OpenClaim := { program := "ytkannkalbhmlcaadoor", sum := "b5857a0255cbd3db2a11fdd7aa33df7465306c90fdfc2f03595916f82af3e55b", func := "weephole/weepholelaw03.DimacsNames", spec := "dimacsNames", inPlace := ["internal/bytealg.IndexByteString", "internal/bytealg.IndexString", "internal/bytealg.CountString"], unfollowed := true, recurses := true, named := ["internal/bytealg.MaxLen", "internal/strconv.uint64pow10", "math/bits.deBruijn32tab", "math/bits.deBruijn64tab"], apart := false, laid := [("math/bits.deBruijn32tab", laid_math_bits_deBruijn32tab), ("math/bits.deBruijn64tab", laid_math_bits_deBruijn64tab), ("internal/strconv.uint64pow10", laid_internal_strconv_uint64pow10)] }
def DimacsNamesSaid : Prop := dimacsNamesRow.holds Tryd.pinned (OpenSpec.ofChange dimacsNamesSpec)

/-- ITS FALSE NEIGHBOUR: 'it returns false'. Refute it at one input. -/
def dimacsNamesWrong : ChangeSpec := { name := "dimacsNames", fn := fun _ => fun
  | [] => { results := [.lit (.bool false)], args := [] }
  | _ => none }
def DimacsNamesWrongFalsely : Prop := dimacsNamesRow.holds Tryd.pinned (OpenSpec.ofChange dimacsNamesWrong)

/-- 'weepholelaw03.DimacsBack': WHATEVER THE INPUT: true; the input reads as it did. -/
def dimacsBackSpec : ChangeSpec := { name := "dimacsBack", fn := fun _ => fun
  | [d1, d2] => { results := [.lit (.bool true)], args := [d1, d2] }
  | _ => none }
def dimacsBackRow : OpenClaim := { program := "ytkannkalbhmlcaadoor", sum := "b5857a0255cbd3db2a11fdd7aa33df7465306c90fdfc2f03595916f82af3e55b", func := "weephole/weepholelaw03.DimacsBack", spec := "dimacsBack", inPlace := ["internal/bytealg.IndexByteString", "internal/bytealg.IndexString", "internal/bytealg.CountString"], unfollowed := true, recurses := true, named := ["internal/strconv.uint64pow10", "math/bits.deBruijn32tab", "math/bits.deBruijn64tab", "internal/bytealg.MaxLen"], apart := false, laid := [("math/bits.deBruijn32tab", laid_math_bits_deBruijn32tab), ("math/bits.deBruijn64tab", laid_math_bits_deBruijn64tab), ("internal/strconv.uint64pow10", laid_internal_strconv_uint64pow10)] }
def DimacsBackSaid : Prop := dimacsBackRow.holds Tryd.pinned (OpenSpec.ofChange dimacsBackSpec)

/-- ITS FALSE NEIGHBOUR: 'it returns false'. Refute it at one input. -/
def dimacsBackWrong : ChangeSpec := { name := "dimacsBack", fn := fun _ => fun
  | [d1, d2] => { results := [.lit (.bool false)], args := [d1, d2] }
  | _ => none }
def DimacsBackWrongFalsely : Prop := dimacsBackRow.holds Tryd.pinned (OpenSpec.ofChange dimacsBackWrong)

/-- 'weepholelaw03.DimacsValid': WHATEVER THE INPUT: true; the input reads as it did. -/
def dimacsValidSpec : ChangeSpec := { name := "dimacsValid", fn := fun _ => fun
  | [d] => { results := [.lit (.bool true)], args := [d] }
  | _ => none }
def dimacsValidRow : OpenClaim := { program := "ytkannkalbhmlcaadoor", sum := "b5857a0255cbd3db2a11fdd7aa33df7465306c90fdfc2f03595916f82af3e55b", func := "weephole/weepholelaw03.DimacsValid", spec := "dimacsValid", inPlace := ["internal/bytealg.IndexByteString", "internal/bytealg.IndexString", "internal/bytealg.CountString"], unfollowed := true, recurses := true, named := ["internal/strconv.uint64pow10", "math/bits.deBruijn32tab", "math/bits.deBruijn64tab", "internal/bytealg.MaxLen"], apart := false, laid := [("math/bits.deBruijn32tab", laid_math_bits_deBruijn32tab), ("math/bits.deBruijn64tab", laid_math_bits_deBruijn64tab), ("internal/strconv.uint64pow10", laid_internal_strconv_uint64pow10)] }
def DimacsValidSaid : Prop := dimacsValidRow.holds Tryd.pinned (OpenSpec.ofChange dimacsValidSpec)

/-- ITS FALSE NEIGHBOUR: 'it returns false'. Refute it at one input. -/
def dimacsValidWrong : ChangeSpec := { name := "dimacsValid", fn := fun _ => fun
  | [d] => { results := [.lit (.bool false)], args := [d] }
  | _ => none }
def DimacsValidWrongFalsely : Prop := dimacsValidRow.holds Tryd.pinned (OpenSpec.ofChange dimacsValidWrong)

/-- 'weepholelaw03.DimacsBlank': WHATEVER THE INPUT: true; the input reads as it did. -/
def dimacsBlankSpec : ChangeSpec := { name := "dimacsBlank", fn := fun _ => fun
  | [d1, d2, d3] => { results := [.lit (.bool true)], args := [d1, d2, d3] }
  | _ => none }
def dimacsBlankRow : OpenClaim := { program := "ytkannkalbhmlcaadoor", sum := "b5857a0255cbd3db2a11fdd7aa33df7465306c90fdfc2f03595916f82af3e55b", func := "weephole/weepholelaw03.DimacsBlank", spec := "dimacsBlank", inPlace := ["internal/bytealg.IndexByteString", "internal/bytealg.IndexString", "internal/bytealg.CountString"], unfollowed := true, recurses := true, named := ["internal/strconv.uint64pow10", "math/bits.deBruijn32tab", "math/bits.deBruijn64tab", "internal/bytealg.MaxLen"], apart := false, laid := [("math/bits.deBruijn32tab", laid_math_bits_deBruijn32tab), ("math/bits.deBruijn64tab", laid_math_bits_deBruijn64tab), ("internal/strconv.uint64pow10", laid_internal_strconv_uint64pow10)] }
def DimacsBlankSaid : Prop := dimacsBlankRow.holds Tryd.pinned (OpenSpec.ofChange dimacsBlankSpec)

/-- ITS FALSE NEIGHBOUR: 'it returns false'. Refute it at one input. -/
def dimacsBlankWrong : ChangeSpec := { name := "dimacsBlank", fn := fun _ => fun
  | [d1, d2, d3] => { results := [.lit (.bool false)], args := [d1, d2, d3] }
  | _ => none }
def DimacsBlankWrongFalsely : Prop := dimacsBlankRow.holds Tryd.pinned (OpenSpec.ofChange dimacsBlankWrong)

/-- 'weepholelaw03.DimacsSame': WHATEVER THE INPUT: true; the input reads as it did. -/
def dimacsSameSpec : ChangeSpec := { name := "dimacsSame", fn := fun _ => fun
  | [d1, d2, d3, d4] => { results := [.lit (.bool true)], args := [d1, d2, d3, d4] }
  | _ => none }
def dimacsSameRow : OpenClaim := { program := "ytkannkalbhmlcaadoor", sum := "b5857a0255cbd3db2a11fdd7aa33df7465306c90fdfc2f03595916f82af3e55b", func := "weephole/weepholelaw03.DimacsSame", spec := "dimacsSame", inPlace := ["internal/bytealg.IndexByteString", "internal/bytealg.IndexString", "internal/bytealg.CountString"], unfollowed := true, recurses := true, named := ["internal/strconv.uint64pow10", "math/bits.deBruijn32tab", "math/bits.deBruijn64tab", "internal/bytealg.MaxLen"], apart := false, laid := [("math/bits.deBruijn32tab", laid_math_bits_deBruijn32tab), ("math/bits.deBruijn64tab", laid_math_bits_deBruijn64tab), ("internal/strconv.uint64pow10", laid_internal_strconv_uint64pow10)] }
def DimacsSameSaid : Prop := dimacsSameRow.holds Tryd.pinned (OpenSpec.ofChange dimacsSameSpec)

/-- ITS FALSE NEIGHBOUR: 'it returns false'. Refute it at one input. -/
def dimacsSameWrong : ChangeSpec := { name := "dimacsSame", fn := fun _ => fun
  | [d1, d2, d3, d4] => { results := [.lit (.bool false)], args := [d1, d2, d3, d4] }
  | _ => none }
def DimacsSameWrongFalsely : Prop := dimacsSameRow.holds Tryd.pinned (OpenSpec.ofChange dimacsSameWrong)

/-- 'weepholelaw03.DimacsEnds': WHATEVER THE INPUT: true; the input reads as it did. -/
def dimacsEndsSpec : ChangeSpec := { name := "dimacsEnds", fn := fun _ => fun
  | [d1, d2, d3] => { results := [.lit (.bool true)], args := [d1, d2, d3] }
  | _ => none }
def dimacsEndsRow : OpenClaim := { program := "ytkannkalbhmlcaadoor", sum := "b5857a0255cbd3db2a11fdd7aa33df7465306c90fdfc2f03595916f82af3e55b", func := "weephole/weepholelaw03.DimacsEnds", spec := "dimacsEnds", inPlace := ["internal/bytealg.IndexByteString", "internal/bytealg.IndexString", "internal/bytealg.CountString"], unfollowed := true, recurses := true, named := ["internal/strconv.uint64pow10", "math/bits.deBruijn32tab", "math/bits.deBruijn64tab", "internal/bytealg.MaxLen"], apart := false, laid := [("math/bits.deBruijn32tab", laid_math_bits_deBruijn32tab), ("math/bits.deBruijn64tab", laid_math_bits_deBruijn64tab), ("internal/strconv.uint64pow10", laid_internal_strconv_uint64pow10)] }
def DimacsEndsSaid : Prop := dimacsEndsRow.holds Tryd.pinned (OpenSpec.ofChange dimacsEndsSpec)

/-- ITS FALSE NEIGHBOUR: 'it returns false'. Refute it at one input. -/
def dimacsEndsWrong : ChangeSpec := { name := "dimacsEnds", fn := fun _ => fun
  | [d1, d2, d3] => { results := [.lit (.bool false)], args := [d1, d2, d3] }
  | _ => none }
def DimacsEndsWrongFalsely : Prop := dimacsEndsRow.holds Tryd.pinned (OpenSpec.ofChange dimacsEndsWrong)

/- THE SECOND FORM. 'bulk': how many values and letters a reading holds, each counted each time it is reached (what is shared counts as often as it is met; a slice's spare places count too). A statement '..UptoSaid' is the law's where the arguments, and the package variables that the reading takes, are together of bulk at most 1048576: NARROWER than '..Said'. Prove '..Said' where nothing that the law and all that it calls make is longer than what came in: it says more and counts as full. Else prove '..UptoSaid'. A law counts once. -/
mutual
def uptoBulk {H : Type} : DataW H → Nat
  | .lit (.string bytes) => bytes.length + 1
  | .lit _ => 1
  | .nil => 1
  | .ptr d => uptoBulk d + 1
  | .slice elems spare => uptoBulkAll elems + uptoBulkAll spare + 1
  | .agg parts => uptoBulkAll parts + 1
  | .iface _ d => uptoBulk d + 1
  | .map entries => uptoBulkEntries entries + 1
  | .held _ => 1
def uptoBulkAll {H : Type} : List (DataW H) → Nat
  | [] => 0
  | d :: r => uptoBulk d + uptoBulkAll r
def uptoBulkEntries {H : Type} : List (Lit × DataW H) → Nat
  | [] => 0
  | x :: r => uptoBulkEntry x + uptoBulkEntries r
def uptoBulkEntry {H : Type} : Lit × DataW H → Nat
  | (.string bytes, d) => bytes.length + uptoBulk d + 1
  | (_, d) => uptoBulk d + 1
 end
def uptoSmall : (H : Type) → List (DataW H) → Bool := fun _ ds => decide (uptoBulkAll ds ≤ 1048576)
def OpenSpec.upto (s : _root_.Go.ChangeSpec) : _root_.Go.OpenSpec := { _root_.Go.OpenSpec.ofChange s with cond := some uptoSmall }

/-- 'weepholelaw03.DimacsFormats', WHERE WHAT IT READS IS OF BULK AT MOST 1048576: true; the input reads as it did. -/
def dimacsFormatsUptoRow : OpenClaim := { program := "ytkannkalbhmlcaadoor", sum := "b5857a0255cbd3db2a11fdd7aa33df7465306c90fdfc2f03595916f82af3e55b", func := "weephole/weepholelaw03.DimacsFormats", spec := "dimacsFormats", inPlace := ["internal/bytealg.IndexByteString", "internal/bytealg.IndexString", "internal/bytealg.CountString"], unfollowed := true, recurses := true, named := ["internal/strconv.uint64pow10", "math/bits.deBruijn32tab", "math/bits.deBruijn64tab", "internal/bytealg.MaxLen"], apart := false, laid := [("math/bits.deBruijn32tab", laid_math_bits_deBruijn32tab), ("math/bits.deBruijn64tab", laid_math_bits_deBruijn64tab), ("internal/strconv.uint64pow10", laid_internal_strconv_uint64pow10)], narrowed := true }
def DimacsFormatsUptoSaid : Prop := dimacsFormatsUptoRow.holds Tryd.pinned (OpenSpec.upto dimacsFormatsSpec)

/-- 'weepholelaw03.DimacsParses', WHERE WHAT IT READS IS OF BULK AT MOST 1048576: true; the input reads as it did. -/
def dimacsParsesUptoRow : OpenClaim := { program := "ytkannkalbhmlcaadoor", sum := "b5857a0255cbd3db2a11fdd7aa33df7465306c90fdfc2f03595916f82af3e55b", func := "weephole/weepholelaw03.DimacsParses", spec := "dimacsParses", inPlace := ["internal/bytealg.IndexByteString", "internal/bytealg.IndexString", "internal/bytealg.CountString"], unfollowed := true, recurses := true, named := ["internal/strconv.uint64pow10", "math/bits.deBruijn32tab", "math/bits.deBruijn64tab", "internal/bytealg.MaxLen"], apart := false, laid := [("math/bits.deBruijn32tab", laid_math_bits_deBruijn32tab), ("math/bits.deBruijn64tab", laid_math_bits_deBruijn64tab), ("internal/strconv.uint64pow10", laid_internal_strconv_uint64pow10)], narrowed := true }
def DimacsParsesUptoSaid : Prop := dimacsParsesUptoRow.holds Tryd.pinned (OpenSpec.upto dimacsParsesSpec)

/-- 'weepholelaw03.DimacsNames', WHERE WHAT IT READS IS OF BULK AT MOST 1048576: true; the input reads as it did. -/
def dimacsNamesUptoRow : OpenClaim := { program := "ytkannkalbhmlcaadoor", sum := "b5857a0255cbd3db2a11fdd7aa33df7465306c90fdfc2f03595916f82af3e55b", func := "weephole/weepholelaw03.DimacsNames", spec := "dimacsNames", inPlace := ["internal/bytealg.IndexByteString", "internal/bytealg.IndexString", "internal/bytealg.CountString"], unfollowed := true, recurses := true, named := ["internal/bytealg.MaxLen", "internal/strconv.uint64pow10", "math/bits.deBruijn32tab", "math/bits.deBruijn64tab"], apart := false, laid := [("math/bits.deBruijn32tab", laid_math_bits_deBruijn32tab), ("math/bits.deBruijn64tab", laid_math_bits_deBruijn64tab), ("internal/strconv.uint64pow10", laid_internal_strconv_uint64pow10)], narrowed := true }
def DimacsNamesUptoSaid : Prop := dimacsNamesUptoRow.holds Tryd.pinned (OpenSpec.upto dimacsNamesSpec)

/-- 'weepholelaw03.DimacsBack', WHERE WHAT IT READS IS OF BULK AT MOST 1048576: true; the input reads as it did. -/
def dimacsBackUptoRow : OpenClaim := { program := "ytkannkalbhmlcaadoor", sum := "b5857a0255cbd3db2a11fdd7aa33df7465306c90fdfc2f03595916f82af3e55b", func := "weephole/weepholelaw03.DimacsBack", spec := "dimacsBack", inPlace := ["internal/bytealg.IndexByteString", "internal/bytealg.IndexString", "internal/bytealg.CountString"], unfollowed := true, recurses := true, named := ["internal/strconv.uint64pow10", "math/bits.deBruijn32tab", "math/bits.deBruijn64tab", "internal/bytealg.MaxLen"], apart := false, laid := [("math/bits.deBruijn32tab", laid_math_bits_deBruijn32tab), ("math/bits.deBruijn64tab", laid_math_bits_deBruijn64tab), ("internal/strconv.uint64pow10", laid_internal_strconv_uint64pow10)], narrowed := true }
def DimacsBackUptoSaid : Prop := dimacsBackUptoRow.holds Tryd.pinned (OpenSpec.upto dimacsBackSpec)

/-- 'weepholelaw03.DimacsValid', WHERE WHAT IT READS IS OF BULK AT MOST 1048576: true; the input reads as it did. -/
def dimacsValidUptoRow : OpenClaim := { program := "ytkannkalbhmlcaadoor", sum := "b5857a0255cbd3db2a11fdd7aa33df7465306c90fdfc2f03595916f82af3e55b", func := "weephole/weepholelaw03.DimacsValid", spec := "dimacsValid", inPlace := ["internal/bytealg.IndexByteString", "internal/bytealg.IndexString", "internal/bytealg.CountString"], unfollowed := true, recurses := true, named := ["internal/strconv.uint64pow10", "math/bits.deBruijn32tab", "math/bits.deBruijn64tab", "internal/bytealg.MaxLen"], apart := false, laid := [("math/bits.deBruijn32tab", laid_math_bits_deBruijn32tab), ("math/bits.deBruijn64tab", laid_math_bits_deBruijn64tab), ("internal/strconv.uint64pow10", laid_internal_strconv_uint64pow10)], narrowed := true }
def DimacsValidUptoSaid : Prop := dimacsValidUptoRow.holds Tryd.pinned (OpenSpec.upto dimacsValidSpec)

/-- 'weepholelaw03.DimacsBlank', WHERE WHAT IT READS IS OF BULK AT MOST 1048576: true; the input reads as it did. -/
def dimacsBlankUptoRow : OpenClaim := { program := "ytkannkalbhmlcaadoor", sum := "b5857a0255cbd3db2a11fdd7aa33df7465306c90fdfc2f03595916f82af3e55b", func := "weephole/weepholelaw03.DimacsBlank", spec := "dimacsBlank", inPlace := ["internal/bytealg.IndexByteString", "internal/bytealg.IndexString", "internal/bytealg.CountString"], unfollowed := true, recurses := true, named := ["internal/strconv.uint64pow10", "math/bits.deBruijn32tab", "math/bits.deBruijn64tab", "internal/bytealg.MaxLen"], apart := false, laid := [("math/bits.deBruijn32tab", laid_math_bits_deBruijn32tab), ("math/bits.deBruijn64tab", laid_math_bits_deBruijn64tab), ("internal/strconv.uint64pow10", laid_internal_strconv_uint64pow10)], narrowed := true }
def DimacsBlankUptoSaid : Prop := dimacsBlankUptoRow.holds Tryd.pinned (OpenSpec.upto dimacsBlankSpec)

/-- 'weepholelaw03.DimacsSame', WHERE WHAT IT READS IS OF BULK AT MOST 1048576: true; the input reads as it did. -/
def dimacsSameUptoRow : OpenClaim := { program := "ytkannkalbhmlcaadoor", sum := "b5857a0255cbd3db2a11fdd7aa33df7465306c90fdfc2f03595916f82af3e55b", func := "weephole/weepholelaw03.DimacsSame", spec := "dimacsSame", inPlace := ["internal/bytealg.IndexByteString", "internal/bytealg.IndexString", "internal/bytealg.CountString"], unfollowed := true, recurses := true, named := ["internal/strconv.uint64pow10", "math/bits.deBruijn32tab", "math/bits.deBruijn64tab", "internal/bytealg.MaxLen"], apart := false, laid := [("math/bits.deBruijn32tab", laid_math_bits_deBruijn32tab), ("math/bits.deBruijn64tab", laid_math_bits_deBruijn64tab), ("internal/strconv.uint64pow10", laid_internal_strconv_uint64pow10)], narrowed := true }
def DimacsSameUptoSaid : Prop := dimacsSameUptoRow.holds Tryd.pinned (OpenSpec.upto dimacsSameSpec)

/-- 'weepholelaw03.DimacsEnds', WHERE WHAT IT READS IS OF BULK AT MOST 1048576: true; the input reads as it did. -/
def dimacsEndsUptoRow : OpenClaim := { program := "ytkannkalbhmlcaadoor", sum := "b5857a0255cbd3db2a11fdd7aa33df7465306c90fdfc2f03595916f82af3e55b", func := "weephole/weepholelaw03.DimacsEnds", spec := "dimacsEnds", inPlace := ["internal/bytealg.IndexByteString", "internal/bytealg.IndexString", "internal/bytealg.CountString"], unfollowed := true, recurses := true, named := ["internal/strconv.uint64pow10", "math/bits.deBruijn32tab", "math/bits.deBruijn64tab", "internal/bytealg.MaxLen"], apart := false, laid := [("math/bits.deBruijn32tab", laid_math_bits_deBruijn32tab), ("math/bits.deBruijn64tab", laid_math_bits_deBruijn64tab), ("internal/strconv.uint64pow10", laid_internal_strconv_uint64pow10)], narrowed := true }
def DimacsEndsUptoSaid : Prop := dimacsEndsUptoRow.holds Tryd.pinned (OpenSpec.upto dimacsEndsSpec)

end Rows
end Go.Proofs.YtkannkalbhmlcaaDoor
