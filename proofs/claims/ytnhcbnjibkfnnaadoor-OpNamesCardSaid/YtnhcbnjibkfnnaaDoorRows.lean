/-
  NARROWER THAN 'FOR EVERY INPUT', by the rows' own cells (each row's printed sentence says how): OpMatches: laid · OpOfs: laid · OpNames: laid · OpInverse: laid · OpLetters: laid · OpCommuting: laid · OpArities: laid.
  DERIVED. THE GIVEN ROWS OF THIS SEAT. 7 by the template 'for every input the law returns true; each argument reads behind the call as it read before'; 0 by the template 'total and deterministic' (their statements: YtnhcbnjibkfnnaaDoorTotals.lean).
  GIVEN WITH THE SEED: the statements are not yours to turn. If you find one false, say at which input.
  Laid BY PROGRAM, IN A SANDBOX (cutbox-rows.mjs): the forced cells as the released guide's own fill.sh prints them over the translation cdf824b13a5b2540… (all of the seat's roots in one cut). By AI agents, Wed Nov 11 2026. No macro, syntax, notation, axiom, sorry.
-/
import Derived.Test.YtnhcbnjibkfnnaaDoorChecked
import GoSem.Claim
import GoSem.ClaimJoined
import GoSem.ClaimMapViews
import Derived.JoinedTies
import Derived.KernelRfl
namespace Go.Proofs.YtnhcbnjibkfnnaaDoor
/- THE CELL 'sum', in the pinned program and in every row, IS THE sha256 OF THE DUMP (.gsa) THAT YtnhcbnjibkfnnaaDoorProg.lean LOADS. Nothing in Lean hashes anything: it is a label: what it is worth is what the hold of that sum in a sandbox is worth. -/
noncomputable def Tryd.pinned : Pinned := { name := "ytnhcbnjibkfnnaadoor", sum := "cdf824b13a5b25404a062af5bfa7aa661c247d83a63ae33be4ca1552878668d5", checked := Tryd.checked }
namespace Rows
def none {H : Type} : Left H := { results := [], args := [] }

/- WHAT THE LISTED PACKAGE-LEVEL VARIABLES READ AS WHEN THE CALL BEGINS. Each datum BY PROGRAM (the guide's laid-datum.mjs) off the statement by which the dump's own 'gosem.cut.vars' lays the variable. In a bare row this is a premise. The card (YtnhcbnjibkfnnaaDoorCards.lean) ties it to the program's text. -/
def laid_weephole_op_operators {H : Type} : DataW H := .agg [.agg [.lit (.int .i64 0), .lit (.string [])], .agg [.lit (.int .i64 0), .lit (.string [])], .agg [.lit (.int .i64 1), .lit (.string [110, 111, 116])], .agg [.lit (.int .i64 1), .lit (.string [110, 101, 103])], .agg [.lit (.int .i64 2), .lit (.string [97, 100, 100])], .agg [.lit (.int .i64 2), .lit (.string [115, 117, 98])], .agg [.lit (.int .i64 2), .lit (.string [109, 117, 108])], .agg [.lit (.int .i64 2), .lit (.string [100, 105, 118])], .agg [.lit (.int .i64 2), .lit (.string [114, 101, 109])], .agg [.lit (.int .i64 2), .lit (.string [97, 110, 100])], .agg [.lit (.int .i64 2), .lit (.string [111, 114])], .agg [.lit (.int .i64 2), .lit (.string [120, 111, 114])], .agg [.lit (.int .i64 2), .lit (.string [115, 104, 108])], .agg [.lit (.int .i64 2), .lit (.string [115, 104, 114])], .agg [.lit (.int .i64 2), .lit (.string [115, 97, 114])], .agg [.lit (.int .i64 2), .lit (.string [101, 113])], .agg [.lit (.int .i64 2), .lit (.string [110, 101])], .agg [.lit (.int .i64 2), .lit (.string [108, 116])], .agg [.lit (.int .i64 2), .lit (.string [108, 101])], .agg [.lit (.int .i64 2), .lit (.string [115, 108, 116])], .agg [.lit (.int .i64 2), .lit (.string [115, 108, 101])], .agg [.lit (.int .i64 3), .lit (.string [105, 116, 101])]]

/-- 'weepholelaw08.OpMatches': WHATEVER THE INPUT: true; the input reads as it did. -/
def opMatchesSpec : ChangeSpec := { name := "opMatches", fn := fun _ => fun
  | [d] => { results := [.lit (.bool true)], args := [d] }
  | _ => none }
def opMatchesRow : OpenClaim := { program := "ytnhcbnjibkfnnaadoor", sum := "cdf824b13a5b25404a062af5bfa7aa661c247d83a63ae33be4ca1552878668d5", func := "weephole/weepholelaw08.OpMatches", spec := "opMatches", named := ["weephole/op.operators"], apart := false, laid := [("weephole/op.operators", laid_weephole_op_operators)] }
def OpMatchesSaid : Prop := opMatchesRow.holds Tryd.pinned (OpenSpec.ofChange opMatchesSpec)

/-- ITS FALSE NEIGHBOUR: 'it returns false'. Refute it at one input. -/
def opMatchesWrong : ChangeSpec := { name := "opMatches", fn := fun _ => fun
  | [d] => { results := [.lit (.bool false)], args := [d] }
  | _ => none }
def OpMatchesWrongFalsely : Prop := opMatchesRow.holds Tryd.pinned (OpenSpec.ofChange opMatchesWrong)

/-- 'weepholelaw08.OpOfs': WHATEVER THE INPUT: true; the input reads as it did. -/
def opOfsSpec : ChangeSpec := { name := "opOfs", fn := fun _ => fun
  | [d] => { results := [.lit (.bool true)], args := [d] }
  | _ => none }
def opOfsRow : OpenClaim := { program := "ytnhcbnjibkfnnaadoor", sum := "cdf824b13a5b25404a062af5bfa7aa661c247d83a63ae33be4ca1552878668d5", func := "weephole/weepholelaw08.OpOfs", spec := "opOfs", named := ["weephole/op.operators"], apart := false, laid := [("weephole/op.operators", laid_weephole_op_operators)] }
def OpOfsSaid : Prop := opOfsRow.holds Tryd.pinned (OpenSpec.ofChange opOfsSpec)

/-- ITS FALSE NEIGHBOUR: 'it returns false'. Refute it at one input. -/
def opOfsWrong : ChangeSpec := { name := "opOfs", fn := fun _ => fun
  | [d] => { results := [.lit (.bool false)], args := [d] }
  | _ => none }
def OpOfsWrongFalsely : Prop := opOfsRow.holds Tryd.pinned (OpenSpec.ofChange opOfsWrong)

/-- 'weepholelaw08.OpNames': WHATEVER THE INPUT: true; the input reads as it did. -/
def opNamesSpec : ChangeSpec := { name := "opNames", fn := fun _ => fun
  | [] => { results := [.lit (.bool true)], args := [] }
  | _ => none }
def opNamesRow : OpenClaim := { program := "ytnhcbnjibkfnnaadoor", sum := "cdf824b13a5b25404a062af5bfa7aa661c247d83a63ae33be4ca1552878668d5", func := "weephole/weepholelaw08.OpNames", spec := "opNames", named := ["weephole/op.operators"], apart := false, laid := [("weephole/op.operators", laid_weephole_op_operators)] }
def OpNamesSaid : Prop := opNamesRow.holds Tryd.pinned (OpenSpec.ofChange opNamesSpec)

/-- ITS FALSE NEIGHBOUR: 'it returns false'. Refute it at one input. -/
def opNamesWrong : ChangeSpec := { name := "opNames", fn := fun _ => fun
  | [] => { results := [.lit (.bool false)], args := [] }
  | _ => none }
def OpNamesWrongFalsely : Prop := opNamesRow.holds Tryd.pinned (OpenSpec.ofChange opNamesWrong)

/-- 'weepholelaw08.OpInverse': WHATEVER THE INPUT: true; the input reads as it did. -/
def opInverseSpec : ChangeSpec := { name := "opInverse", fn := fun _ => fun
  | [d1, d2] => { results := [.lit (.bool true)], args := [d1, d2] }
  | _ => none }
def opInverseRow : OpenClaim := { program := "ytnhcbnjibkfnnaadoor", sum := "cdf824b13a5b25404a062af5bfa7aa661c247d83a63ae33be4ca1552878668d5", func := "weephole/weepholelaw08.OpInverse", spec := "opInverse", named := ["weephole/op.operators"], apart := false, laid := [("weephole/op.operators", laid_weephole_op_operators)] }
def OpInverseSaid : Prop := opInverseRow.holds Tryd.pinned (OpenSpec.ofChange opInverseSpec)

/-- ITS FALSE NEIGHBOUR: 'it returns false'. Refute it at one input. -/
def opInverseWrong : ChangeSpec := { name := "opInverse", fn := fun _ => fun
  | [d1, d2] => { results := [.lit (.bool false)], args := [d1, d2] }
  | _ => none }
def OpInverseWrongFalsely : Prop := opInverseRow.holds Tryd.pinned (OpenSpec.ofChange opInverseWrong)

/-- 'weepholelaw08.OpLetters': WHATEVER THE INPUT: true; the input reads as it did. -/
def opLettersSpec : ChangeSpec := { name := "opLetters", fn := fun _ => fun
  | [d1, d2] => { results := [.lit (.bool true)], args := [d1, d2] }
  | _ => none }
def opLettersRow : OpenClaim := { program := "ytnhcbnjibkfnnaadoor", sum := "cdf824b13a5b25404a062af5bfa7aa661c247d83a63ae33be4ca1552878668d5", func := "weephole/weepholelaw08.OpLetters", spec := "opLetters", named := ["weephole/op.operators"], apart := false, laid := [("weephole/op.operators", laid_weephole_op_operators)] }
def OpLettersSaid : Prop := opLettersRow.holds Tryd.pinned (OpenSpec.ofChange opLettersSpec)

/-- ITS FALSE NEIGHBOUR: 'it returns false'. Refute it at one input. -/
def opLettersWrong : ChangeSpec := { name := "opLetters", fn := fun _ => fun
  | [d1, d2] => { results := [.lit (.bool false)], args := [d1, d2] }
  | _ => none }
def OpLettersWrongFalsely : Prop := opLettersRow.holds Tryd.pinned (OpenSpec.ofChange opLettersWrong)

/-- 'weepholelaw08.OpCommuting': WHATEVER THE INPUT: true; the input reads as it did. -/
def opCommutingSpec : ChangeSpec := { name := "opCommuting", fn := fun _ => fun
  | [d] => { results := [.lit (.bool true)], args := [d] }
  | _ => none }
def opCommutingRow : OpenClaim := { program := "ytnhcbnjibkfnnaadoor", sum := "cdf824b13a5b25404a062af5bfa7aa661c247d83a63ae33be4ca1552878668d5", func := "weephole/weepholelaw08.OpCommuting", spec := "opCommuting", named := ["weephole/op.operators"], apart := false, laid := [("weephole/op.operators", laid_weephole_op_operators)] }
def OpCommutingSaid : Prop := opCommutingRow.holds Tryd.pinned (OpenSpec.ofChange opCommutingSpec)

/-- ITS FALSE NEIGHBOUR: 'it returns false'. Refute it at one input. -/
def opCommutingWrong : ChangeSpec := { name := "opCommuting", fn := fun _ => fun
  | [d] => { results := [.lit (.bool false)], args := [d] }
  | _ => none }
def OpCommutingWrongFalsely : Prop := opCommutingRow.holds Tryd.pinned (OpenSpec.ofChange opCommutingWrong)

/-- 'weepholelaw08.OpArities': WHATEVER THE INPUT: true; the input reads as it did. -/
def opAritiesSpec : ChangeSpec := { name := "opArities", fn := fun _ => fun
  | [d] => { results := [.lit (.bool true)], args := [d] }
  | _ => none }
def opAritiesRow : OpenClaim := { program := "ytnhcbnjibkfnnaadoor", sum := "cdf824b13a5b25404a062af5bfa7aa661c247d83a63ae33be4ca1552878668d5", func := "weephole/weepholelaw08.OpArities", spec := "opArities", named := ["weephole/op.operators"], apart := false, laid := [("weephole/op.operators", laid_weephole_op_operators)] }
def OpAritiesSaid : Prop := opAritiesRow.holds Tryd.pinned (OpenSpec.ofChange opAritiesSpec)

/-- ITS FALSE NEIGHBOUR: 'it returns false'. Refute it at one input. -/
def opAritiesWrong : ChangeSpec := { name := "opArities", fn := fun _ => fun
  | [d] => { results := [.lit (.bool false)], args := [d] }
  | _ => none }
def OpAritiesWrongFalsely : Prop := opAritiesRow.holds Tryd.pinned (OpenSpec.ofChange opAritiesWrong)

/- THE SECOND FORM. 'bulk': how many values and letters a reading holds, each counted each time it is reached (what is shared counts as often as it is met; a slice's spare places count too). A statement '..UptoSaid' is the law's where the arguments, and the package variables that the reading takes, are together of bulk at most 1048576: NARROWER than '..Said'. Prove '..Said' where nothing that the law and all that it calls make is longer than what came in: it says more and counts as full. Else prove '..UptoSaid'. A law counts once. -/
mutual
def uptoBulk {H : Type} : DataW H → Nat
  | .lit (.string bytes) => bytes.length + 1
  | .lit _ => 1
  | .nil => 1
  | .ptr d => uptoBulk d + 1
  | .slice elems spare => uptoBulkAll elems + uptoBulkAll spare + 1
  | .agg parts => uptoBulkAll parts + 1
  | .iface _ d => uptoBulk d + 1
  | .map entries => uptoBulkEntries entries + 1
  | .held _ => 1
def uptoBulkAll {H : Type} : List (DataW H) → Nat
  | [] => 0
  | d :: r => uptoBulk d + uptoBulkAll r
def uptoBulkEntries {H : Type} : List (Lit × DataW H) → Nat
  | [] => 0
  | x :: r => uptoBulkEntry x + uptoBulkEntries r
def uptoBulkEntry {H : Type} : Lit × DataW H → Nat
  | (.string bytes, d) => bytes.length + uptoBulk d + 1
  | (_, d) => uptoBulk d + 1
 end
def uptoSmall : (H : Type) → List (DataW H) → Bool := fun _ ds => decide (uptoBulkAll ds ≤ 1048576)
def OpenSpec.upto (s : _root_.Go.ChangeSpec) : _root_.Go.OpenSpec := { _root_.Go.OpenSpec.ofChange s with cond := some uptoSmall }

/-- 'weepholelaw08.OpMatches', WHERE WHAT IT READS IS OF BULK AT MOST 1048576: true; the input reads as it did. -/
def opMatchesUptoRow : OpenClaim := { program := "ytnhcbnjibkfnnaadoor", sum := "cdf824b13a5b25404a062af5bfa7aa661c247d83a63ae33be4ca1552878668d5", func := "weephole/weepholelaw08.OpMatches", spec := "opMatches", named := ["weephole/op.operators"], apart := false, laid := [("weephole/op.operators", laid_weephole_op_operators)], narrowed := true }
def OpMatchesUptoSaid : Prop := opMatchesUptoRow.holds Tryd.pinned (OpenSpec.upto opMatchesSpec)

/-- 'weepholelaw08.OpOfs', WHERE WHAT IT READS IS OF BULK AT MOST 1048576: true; the input reads as it did. -/
def opOfsUptoRow : OpenClaim := { program := "ytnhcbnjibkfnnaadoor", sum := "cdf824b13a5b25404a062af5bfa7aa661c247d83a63ae33be4ca1552878668d5", func := "weephole/weepholelaw08.OpOfs", spec := "opOfs", named := ["weephole/op.operators"], apart := false, laid := [("weephole/op.operators", laid_weephole_op_operators)], narrowed := true }
def OpOfsUptoSaid : Prop := opOfsUptoRow.holds Tryd.pinned (OpenSpec.upto opOfsSpec)

/-- 'weepholelaw08.OpNames', WHERE WHAT IT READS IS OF BULK AT MOST 1048576: true; the input reads as it did. -/
def opNamesUptoRow : OpenClaim := { program := "ytnhcbnjibkfnnaadoor", sum := "cdf824b13a5b25404a062af5bfa7aa661c247d83a63ae33be4ca1552878668d5", func := "weephole/weepholelaw08.OpNames", spec := "opNames", named := ["weephole/op.operators"], apart := false, laid := [("weephole/op.operators", laid_weephole_op_operators)], narrowed := true }
def OpNamesUptoSaid : Prop := opNamesUptoRow.holds Tryd.pinned (OpenSpec.upto opNamesSpec)

/-- 'weepholelaw08.OpInverse', WHERE WHAT IT READS IS OF BULK AT MOST 1048576: true; the input reads as it did. -/
def opInverseUptoRow : OpenClaim := { program := "ytnhcbnjibkfnnaadoor", sum := "cdf824b13a5b25404a062af5bfa7aa661c247d83a63ae33be4ca1552878668d5", func := "weephole/weepholelaw08.OpInverse", spec := "opInverse", named := ["weephole/op.operators"], apart := false, laid := [("weephole/op.operators", laid_weephole_op_operators)], narrowed := true }
def OpInverseUptoSaid : Prop := opInverseUptoRow.holds Tryd.pinned (OpenSpec.upto opInverseSpec)

/-- 'weepholelaw08.OpLetters', WHERE WHAT IT READS IS OF BULK AT MOST 1048576: true; the input reads as it did. -/
def opLettersUptoRow : OpenClaim := { program := "ytnhcbnjibkfnnaadoor", sum := "cdf824b13a5b25404a062af5bfa7aa661c247d83a63ae33be4ca1552878668d5", func := "weephole/weepholelaw08.OpLetters", spec := "opLetters", named := ["weephole/op.operators"], apart := false, laid := [("weephole/op.operators", laid_weephole_op_operators)], narrowed := true }
def OpLettersUptoSaid : Prop := opLettersUptoRow.holds Tryd.pinned (OpenSpec.upto opLettersSpec)

/-- 'weepholelaw08.OpCommuting', WHERE WHAT IT READS IS OF BULK AT MOST 1048576: true; the input reads as it did. -/
def opCommutingUptoRow : OpenClaim := { program := "ytnhcbnjibkfnnaadoor", sum := "cdf824b13a5b25404a062af5bfa7aa661c247d83a63ae33be4ca1552878668d5", func := "weephole/weepholelaw08.OpCommuting", spec := "opCommuting", named := ["weephole/op.operators"], apart := false, laid := [("weephole/op.operators", laid_weephole_op_operators)], narrowed := true }
def OpCommutingUptoSaid : Prop := opCommutingUptoRow.holds Tryd.pinned (OpenSpec.upto opCommutingSpec)

/-- 'weepholelaw08.OpArities', WHERE WHAT IT READS IS OF BULK AT MOST 1048576: true; the input reads as it did. -/
def opAritiesUptoRow : OpenClaim := { program := "ytnhcbnjibkfnnaadoor", sum := "cdf824b13a5b25404a062af5bfa7aa661c247d83a63ae33be4ca1552878668d5", func := "weephole/weepholelaw08.OpArities", spec := "opArities", named := ["weephole/op.operators"], apart := false, laid := [("weephole/op.operators", laid_weephole_op_operators)], narrowed := true }
def OpAritiesUptoSaid : Prop := opAritiesUptoRow.holds Tryd.pinned (OpenSpec.upto opAritiesSpec)

end Rows
end Go.Proofs.YtnhcbnjibkfnnaaDoor
