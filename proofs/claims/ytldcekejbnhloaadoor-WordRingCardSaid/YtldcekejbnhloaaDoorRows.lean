/-
  NARROWER THAN 'FOR EVERY INPUT', by the rows' own cells (each row's printed sentence says how): WordApplies: laid · WordAll: laid · WordTrims: laid · WordNames: laid · WordRing: laid · WordNegs: laid · WordCompares: laid · WordShifts: laid · WordParts: laid.
  DERIVED. THE GIVEN ROWS OF THIS SEAT. 9 by the template 'for every input the law returns true; each argument reads behind the call as it read before'; 0 by the template 'total and deterministic' (their statements: YtldcekejbnhloaaDoorTotals.lean).
  GIVEN WITH THE SEED: the statements are not yours to turn. If you find one false, say at which input.
  Laid BY PROGRAM, IN A SANDBOX (cutbox-rows.mjs): the forced cells as the released guide's own fill.sh prints them over the translation c9d8164f6ef21831… (all of the seat's roots in one cut). By AI agents, Wed Nov 11 2026. No macro, syntax, notation, axiom, sorry.
-/
import Derived.Test.YtldcekejbnhloaaDoorChecked
import GoSem.Claim
import GoSem.ClaimJoined
import GoSem.ClaimMapViews
import Derived.JoinedTies
import Derived.KernelRfl
namespace Go.Proofs.YtldcekejbnhloaaDoor
/- THE CELL 'sum', in the pinned program and in every row, IS THE sha256 OF THE DUMP (.gsa) THAT YtldcekejbnhloaaDoorProg.lean LOADS. Nothing in Lean hashes anything: it is a label: what it is worth is what the hold of that sum in a sandbox is worth. -/
noncomputable def Tryd.pinned : Pinned := { name := "ytldcekejbnhloaadoor", sum := "c9d8164f6ef2183126f426ceb0820bb5edbe593b62cbe95d874cf61775354a08", checked := Tryd.checked }
namespace Rows
def none {H : Type} : Left H := { results := [], args := [] }

/- WHAT THE LISTED PACKAGE-LEVEL VARIABLES READ AS WHEN THE CALL BEGINS. Each datum BY PROGRAM (the guide's laid-datum.mjs) off the statement by which the dump's own 'gosem.cut.vars' lays the variable. In a bare row this is a premise. The card (YtldcekejbnhloaaDoorCards.lean) ties it to the program's text. -/
def laid_weephole_op_operators {H : Type} : DataW H := .agg [.agg [.lit (.int .i64 0), .lit (.string [])], .agg [.lit (.int .i64 0), .lit (.string [])], .agg [.lit (.int .i64 1), .lit (.string [110, 111, 116])], .agg [.lit (.int .i64 1), .lit (.string [110, 101, 103])], .agg [.lit (.int .i64 2), .lit (.string [97, 100, 100])], .agg [.lit (.int .i64 2), .lit (.string [115, 117, 98])], .agg [.lit (.int .i64 2), .lit (.string [109, 117, 108])], .agg [.lit (.int .i64 2), .lit (.string [100, 105, 118])], .agg [.lit (.int .i64 2), .lit (.string [114, 101, 109])], .agg [.lit (.int .i64 2), .lit (.string [97, 110, 100])], .agg [.lit (.int .i64 2), .lit (.string [111, 114])], .agg [.lit (.int .i64 2), .lit (.string [120, 111, 114])], .agg [.lit (.int .i64 2), .lit (.string [115, 104, 108])], .agg [.lit (.int .i64 2), .lit (.string [115, 104, 114])], .agg [.lit (.int .i64 2), .lit (.string [115, 97, 114])], .agg [.lit (.int .i64 2), .lit (.string [101, 113])], .agg [.lit (.int .i64 2), .lit (.string [110, 101])], .agg [.lit (.int .i64 2), .lit (.string [108, 116])], .agg [.lit (.int .i64 2), .lit (.string [108, 101])], .agg [.lit (.int .i64 2), .lit (.string [115, 108, 116])], .agg [.lit (.int .i64 2), .lit (.string [115, 108, 101])], .agg [.lit (.int .i64 3), .lit (.string [105, 116, 101])]]

/-- 'weepholelaw09.WordApplies': WHATEVER THE INPUT: true; the input reads as it did. -/
def wordAppliesSpec : ChangeSpec := { name := "wordApplies", fn := fun _ => fun
  | [d1, d2, d3] => { results := [.lit (.bool true)], args := [d1, d2, d3] }
  | _ => none }
def wordAppliesRow : OpenClaim := { program := "ytldcekejbnhloaadoor", sum := "c9d8164f6ef2183126f426ceb0820bb5edbe593b62cbe95d874cf61775354a08", func := "weephole/weepholelaw09.WordApplies", spec := "wordApplies", unfollowed := true, recurses := true, named := ["weephole/op.operators"], apart := false, laid := [("weephole/op.operators", laid_weephole_op_operators)] }
def WordAppliesSaid : Prop := wordAppliesRow.holds Tryd.pinned (OpenSpec.ofChange wordAppliesSpec)

/-- ITS FALSE NEIGHBOUR: 'it returns false'. Refute it at one input. -/
def wordAppliesWrong : ChangeSpec := { name := "wordApplies", fn := fun _ => fun
  | [d1, d2, d3] => { results := [.lit (.bool false)], args := [d1, d2, d3] }
  | _ => none }
def WordAppliesWrongFalsely : Prop := wordAppliesRow.holds Tryd.pinned (OpenSpec.ofChange wordAppliesWrong)

/-- 'weepholelaw09.WordAll': WHATEVER THE INPUT: true; the input reads as it did. -/
def wordAllSpec : ChangeSpec := { name := "wordAll", fn := fun _ => fun
  | [d1, d2, d3, d4] => { results := [.lit (.bool true)], args := [d1, d2, d3, d4] }
  | _ => none }
def wordAllRow : OpenClaim := { program := "ytldcekejbnhloaadoor", sum := "c9d8164f6ef2183126f426ceb0820bb5edbe593b62cbe95d874cf61775354a08", func := "weephole/weepholelaw09.WordAll", spec := "wordAll", unfollowed := true, recurses := true, named := ["weephole/op.operators"], apart := false, laid := [("weephole/op.operators", laid_weephole_op_operators)] }
def WordAllSaid : Prop := wordAllRow.holds Tryd.pinned (OpenSpec.ofChange wordAllSpec)

/-- ITS FALSE NEIGHBOUR: 'it returns false'. Refute it at one input. -/
def wordAllWrong : ChangeSpec := { name := "wordAll", fn := fun _ => fun
  | [d1, d2, d3, d4] => { results := [.lit (.bool false)], args := [d1, d2, d3, d4] }
  | _ => none }
def WordAllWrongFalsely : Prop := wordAllRow.holds Tryd.pinned (OpenSpec.ofChange wordAllWrong)

/-- 'weepholelaw09.WordTrims': WHATEVER THE INPUT: true; the input reads as it did. -/
def wordTrimsSpec : ChangeSpec := { name := "wordTrims", fn := fun _ => fun
  | [d1, d2] => { results := [.lit (.bool true)], args := [d1, d2] }
  | _ => none }
def wordTrimsRow : OpenClaim := { program := "ytldcekejbnhloaadoor", sum := "c9d8164f6ef2183126f426ceb0820bb5edbe593b62cbe95d874cf61775354a08", func := "weephole/weepholelaw09.WordTrims", spec := "wordTrims", unfollowed := true, recurses := true, named := ["weephole/op.operators"], apart := false, laid := [("weephole/op.operators", laid_weephole_op_operators)] }
def WordTrimsSaid : Prop := wordTrimsRow.holds Tryd.pinned (OpenSpec.ofChange wordTrimsSpec)

/-- ITS FALSE NEIGHBOUR: 'it returns false'. Refute it at one input. -/
def wordTrimsWrong : ChangeSpec := { name := "wordTrims", fn := fun _ => fun
  | [d1, d2] => { results := [.lit (.bool false)], args := [d1, d2] }
  | _ => none }
def WordTrimsWrongFalsely : Prop := wordTrimsRow.holds Tryd.pinned (OpenSpec.ofChange wordTrimsWrong)

/-- 'weepholelaw09.WordNames': WHATEVER THE INPUT: true; the input reads as it did. -/
def wordNamesSpec : ChangeSpec := { name := "wordNames", fn := fun _ => fun
  | [] => { results := [.lit (.bool true)], args := [] }
  | _ => none }
def wordNamesRow : OpenClaim := { program := "ytldcekejbnhloaadoor", sum := "c9d8164f6ef2183126f426ceb0820bb5edbe593b62cbe95d874cf61775354a08", func := "weephole/weepholelaw09.WordNames", spec := "wordNames", unfollowed := true, recurses := true, named := ["weephole/op.operators"], apart := false, laid := [("weephole/op.operators", laid_weephole_op_operators)] }
def WordNamesSaid : Prop := wordNamesRow.holds Tryd.pinned (OpenSpec.ofChange wordNamesSpec)

/-- ITS FALSE NEIGHBOUR: 'it returns false'. Refute it at one input. -/
def wordNamesWrong : ChangeSpec := { name := "wordNames", fn := fun _ => fun
  | [] => { results := [.lit (.bool false)], args := [] }
  | _ => none }
def WordNamesWrongFalsely : Prop := wordNamesRow.holds Tryd.pinned (OpenSpec.ofChange wordNamesWrong)

/-- 'weepholelaw09.WordRing': WHATEVER THE INPUT: true; the input reads as it did. -/
def wordRingSpec : ChangeSpec := { name := "wordRing", fn := fun _ => fun
  | [d1, d2, d3, d4] => { results := [.lit (.bool true)], args := [d1, d2, d3, d4] }
  | _ => none }
def wordRingRow : OpenClaim := { program := "ytldcekejbnhloaadoor", sum := "c9d8164f6ef2183126f426ceb0820bb5edbe593b62cbe95d874cf61775354a08", func := "weephole/weepholelaw09.WordRing", spec := "wordRing", unfollowed := true, recurses := true, named := ["weephole/op.operators"], apart := false, laid := [("weephole/op.operators", laid_weephole_op_operators)] }
def WordRingSaid : Prop := wordRingRow.holds Tryd.pinned (OpenSpec.ofChange wordRingSpec)

/-- ITS FALSE NEIGHBOUR: 'it returns false'. Refute it at one input. -/
def wordRingWrong : ChangeSpec := { name := "wordRing", fn := fun _ => fun
  | [d1, d2, d3, d4] => { results := [.lit (.bool false)], args := [d1, d2, d3, d4] }
  | _ => none }
def WordRingWrongFalsely : Prop := wordRingRow.holds Tryd.pinned (OpenSpec.ofChange wordRingWrong)

/-- 'weepholelaw09.WordNegs': WHATEVER THE INPUT: true; the input reads as it did. -/
def wordNegsSpec : ChangeSpec := { name := "wordNegs", fn := fun _ => fun
  | [d1, d2, d3] => { results := [.lit (.bool true)], args := [d1, d2, d3] }
  | _ => none }
def wordNegsRow : OpenClaim := { program := "ytldcekejbnhloaadoor", sum := "c9d8164f6ef2183126f426ceb0820bb5edbe593b62cbe95d874cf61775354a08", func := "weephole/weepholelaw09.WordNegs", spec := "wordNegs", unfollowed := true, recurses := true, named := ["weephole/op.operators"], apart := false, laid := [("weephole/op.operators", laid_weephole_op_operators)] }
def WordNegsSaid : Prop := wordNegsRow.holds Tryd.pinned (OpenSpec.ofChange wordNegsSpec)

/-- ITS FALSE NEIGHBOUR: 'it returns false'. Refute it at one input. -/
def wordNegsWrong : ChangeSpec := { name := "wordNegs", fn := fun _ => fun
  | [d1, d2, d3] => { results := [.lit (.bool false)], args := [d1, d2, d3] }
  | _ => none }
def WordNegsWrongFalsely : Prop := wordNegsRow.holds Tryd.pinned (OpenSpec.ofChange wordNegsWrong)

/-- 'weepholelaw09.WordCompares': WHATEVER THE INPUT: true; the input reads as it did. -/
def wordComparesSpec : ChangeSpec := { name := "wordCompares", fn := fun _ => fun
  | [d1, d2, d3] => { results := [.lit (.bool true)], args := [d1, d2, d3] }
  | _ => none }
def wordComparesRow : OpenClaim := { program := "ytldcekejbnhloaadoor", sum := "c9d8164f6ef2183126f426ceb0820bb5edbe593b62cbe95d874cf61775354a08", func := "weephole/weepholelaw09.WordCompares", spec := "wordCompares", unfollowed := true, recurses := true, named := ["weephole/op.operators"], apart := false, laid := [("weephole/op.operators", laid_weephole_op_operators)] }
def WordComparesSaid : Prop := wordComparesRow.holds Tryd.pinned (OpenSpec.ofChange wordComparesSpec)

/-- ITS FALSE NEIGHBOUR: 'it returns false'. Refute it at one input. -/
def wordComparesWrong : ChangeSpec := { name := "wordCompares", fn := fun _ => fun
  | [d1, d2, d3] => { results := [.lit (.bool false)], args := [d1, d2, d3] }
  | _ => none }
def WordComparesWrongFalsely : Prop := wordComparesRow.holds Tryd.pinned (OpenSpec.ofChange wordComparesWrong)

/-- 'weepholelaw09.WordShifts': WHATEVER THE INPUT: true; the input reads as it did. -/
def wordShiftsSpec : ChangeSpec := { name := "wordShifts", fn := fun _ => fun
  | [d1, d2, d3] => { results := [.lit (.bool true)], args := [d1, d2, d3] }
  | _ => none }
def wordShiftsRow : OpenClaim := { program := "ytldcekejbnhloaadoor", sum := "c9d8164f6ef2183126f426ceb0820bb5edbe593b62cbe95d874cf61775354a08", func := "weephole/weepholelaw09.WordShifts", spec := "wordShifts", unfollowed := true, recurses := true, named := ["weephole/op.operators"], apart := false, laid := [("weephole/op.operators", laid_weephole_op_operators)] }
def WordShiftsSaid : Prop := wordShiftsRow.holds Tryd.pinned (OpenSpec.ofChange wordShiftsSpec)

/-- ITS FALSE NEIGHBOUR: 'it returns false'. Refute it at one input. -/
def wordShiftsWrong : ChangeSpec := { name := "wordShifts", fn := fun _ => fun
  | [d1, d2, d3] => { results := [.lit (.bool false)], args := [d1, d2, d3] }
  | _ => none }
def WordShiftsWrongFalsely : Prop := wordShiftsRow.holds Tryd.pinned (OpenSpec.ofChange wordShiftsWrong)

/-- 'weepholelaw09.WordParts': WHATEVER THE INPUT: true; the input reads as it did. -/
def wordPartsSpec : ChangeSpec := { name := "wordParts", fn := fun _ => fun
  | [d1, d2, d3, d4, d5, d6, d7] => { results := [.lit (.bool true)], args := [d1, d2, d3, d4, d5, d6, d7] }
  | _ => none }
def wordPartsRow : OpenClaim := { program := "ytldcekejbnhloaadoor", sum := "c9d8164f6ef2183126f426ceb0820bb5edbe593b62cbe95d874cf61775354a08", func := "weephole/weepholelaw09.WordParts", spec := "wordParts", unfollowed := true, recurses := true, named := ["weephole/op.operators"], apart := false, laid := [("weephole/op.operators", laid_weephole_op_operators)] }
def WordPartsSaid : Prop := wordPartsRow.holds Tryd.pinned (OpenSpec.ofChange wordPartsSpec)

/-- ITS FALSE NEIGHBOUR: 'it returns false'. Refute it at one input. -/
def wordPartsWrong : ChangeSpec := { name := "wordParts", fn := fun _ => fun
  | [d1, d2, d3, d4, d5, d6, d7] => { results := [.lit (.bool false)], args := [d1, d2, d3, d4, d5, d6, d7] }
  | _ => none }
def WordPartsWrongFalsely : Prop := wordPartsRow.holds Tryd.pinned (OpenSpec.ofChange wordPartsWrong)

/- THE SECOND FORM. 'bulk': how many values and letters a reading holds, each counted each time it is reached (what is shared counts as often as it is met; a slice's spare places count too). A statement '..UptoSaid' is the law's where the arguments, and the package variables that the reading takes, are together of bulk at most 1048576: NARROWER than '..Said'. Prove '..Said' where nothing that the law and all that it calls make is longer than what came in: it says more and counts as full. Else prove '..UptoSaid'. A law counts once. -/
mutual
def uptoBulk {H : Type} : DataW H → Nat
  | .lit (.string bytes) => bytes.length + 1
  | .lit _ => 1
  | .nil => 1
  | .ptr d => uptoBulk d + 1
  | .slice elems spare => uptoBulkAll elems + uptoBulkAll spare + 1
  | .agg parts => uptoBulkAll parts + 1
  | .iface _ d => uptoBulk d + 1
  | .map entries => uptoBulkEntries entries + 1
  | .held _ => 1
def uptoBulkAll {H : Type} : List (DataW H) → Nat
  | [] => 0
  | d :: r => uptoBulk d + uptoBulkAll r
def uptoBulkEntries {H : Type} : List (Lit × DataW H) → Nat
  | [] => 0
  | x :: r => uptoBulkEntry x + uptoBulkEntries r
def uptoBulkEntry {H : Type} : Lit × DataW H → Nat
  | (.string bytes, d) => bytes.length + uptoBulk d + 1
  | (_, d) => uptoBulk d + 1
 end
def uptoSmall : (H : Type) → List (DataW H) → Bool := fun _ ds => decide (uptoBulkAll ds ≤ 1048576)
def OpenSpec.upto (s : _root_.Go.ChangeSpec) : _root_.Go.OpenSpec := { _root_.Go.OpenSpec.ofChange s with cond := some uptoSmall }

/-- 'weepholelaw09.WordApplies', WHERE WHAT IT READS IS OF BULK AT MOST 1048576: true; the input reads as it did. -/
def wordAppliesUptoRow : OpenClaim := { program := "ytldcekejbnhloaadoor", sum := "c9d8164f6ef2183126f426ceb0820bb5edbe593b62cbe95d874cf61775354a08", func := "weephole/weepholelaw09.WordApplies", spec := "wordApplies", unfollowed := true, recurses := true, named := ["weephole/op.operators"], apart := false, laid := [("weephole/op.operators", laid_weephole_op_operators)], narrowed := true }
def WordAppliesUptoSaid : Prop := wordAppliesUptoRow.holds Tryd.pinned (OpenSpec.upto wordAppliesSpec)

/-- 'weepholelaw09.WordAll', WHERE WHAT IT READS IS OF BULK AT MOST 1048576: true; the input reads as it did. -/
def wordAllUptoRow : OpenClaim := { program := "ytldcekejbnhloaadoor", sum := "c9d8164f6ef2183126f426ceb0820bb5edbe593b62cbe95d874cf61775354a08", func := "weephole/weepholelaw09.WordAll", spec := "wordAll", unfollowed := true, recurses := true, named := ["weephole/op.operators"], apart := false, laid := [("weephole/op.operators", laid_weephole_op_operators)], narrowed := true }
def WordAllUptoSaid : Prop := wordAllUptoRow.holds Tryd.pinned (OpenSpec.upto wordAllSpec)

/-- 'weepholelaw09.WordTrims', WHERE WHAT IT READS IS OF BULK AT MOST 1048576: true; the input reads as it did. -/
def wordTrimsUptoRow : OpenClaim := { program := "ytldcekejbnhloaadoor", sum := "c9d8164f6ef2183126f426ceb0820bb5edbe593b62cbe95d874cf61775354a08", func := "weephole/weepholelaw09.WordTrims", spec := "wordTrims", unfollowed := true, recurses := true, named := ["weephole/op.operators"], apart := false, laid := [("weephole/op.operators", laid_weephole_op_operators)], narrowed := true }
def WordTrimsUptoSaid : Prop := wordTrimsUptoRow.holds Tryd.pinned (OpenSpec.upto wordTrimsSpec)

/-- 'weepholelaw09.WordNames', WHERE WHAT IT READS IS OF BULK AT MOST 1048576: true; the input reads as it did. -/
def wordNamesUptoRow : OpenClaim := { program := "ytldcekejbnhloaadoor", sum := "c9d8164f6ef2183126f426ceb0820bb5edbe593b62cbe95d874cf61775354a08", func := "weephole/weepholelaw09.WordNames", spec := "wordNames", unfollowed := true, recurses := true, named := ["weephole/op.operators"], apart := false, laid := [("weephole/op.operators", laid_weephole_op_operators)], narrowed := true }
def WordNamesUptoSaid : Prop := wordNamesUptoRow.holds Tryd.pinned (OpenSpec.upto wordNamesSpec)

/-- 'weepholelaw09.WordRing', WHERE WHAT IT READS IS OF BULK AT MOST 1048576: true; the input reads as it did. -/
def wordRingUptoRow : OpenClaim := { program := "ytldcekejbnhloaadoor", sum := "c9d8164f6ef2183126f426ceb0820bb5edbe593b62cbe95d874cf61775354a08", func := "weephole/weepholelaw09.WordRing", spec := "wordRing", unfollowed := true, recurses := true, named := ["weephole/op.operators"], apart := false, laid := [("weephole/op.operators", laid_weephole_op_operators)], narrowed := true }
def WordRingUptoSaid : Prop := wordRingUptoRow.holds Tryd.pinned (OpenSpec.upto wordRingSpec)

/-- 'weepholelaw09.WordNegs', WHERE WHAT IT READS IS OF BULK AT MOST 1048576: true; the input reads as it did. -/
def wordNegsUptoRow : OpenClaim := { program := "ytldcekejbnhloaadoor", sum := "c9d8164f6ef2183126f426ceb0820bb5edbe593b62cbe95d874cf61775354a08", func := "weephole/weepholelaw09.WordNegs", spec := "wordNegs", unfollowed := true, recurses := true, named := ["weephole/op.operators"], apart := false, laid := [("weephole/op.operators", laid_weephole_op_operators)], narrowed := true }
def WordNegsUptoSaid : Prop := wordNegsUptoRow.holds Tryd.pinned (OpenSpec.upto wordNegsSpec)

/-- 'weepholelaw09.WordCompares', WHERE WHAT IT READS IS OF BULK AT MOST 1048576: true; the input reads as it did. -/
def wordComparesUptoRow : OpenClaim := { program := "ytldcekejbnhloaadoor", sum := "c9d8164f6ef2183126f426ceb0820bb5edbe593b62cbe95d874cf61775354a08", func := "weephole/weepholelaw09.WordCompares", spec := "wordCompares", unfollowed := true, recurses := true, named := ["weephole/op.operators"], apart := false, laid := [("weephole/op.operators", laid_weephole_op_operators)], narrowed := true }
def WordComparesUptoSaid : Prop := wordComparesUptoRow.holds Tryd.pinned (OpenSpec.upto wordComparesSpec)

/-- 'weepholelaw09.WordShifts', WHERE WHAT IT READS IS OF BULK AT MOST 1048576: true; the input reads as it did. -/
def wordShiftsUptoRow : OpenClaim := { program := "ytldcekejbnhloaadoor", sum := "c9d8164f6ef2183126f426ceb0820bb5edbe593b62cbe95d874cf61775354a08", func := "weephole/weepholelaw09.WordShifts", spec := "wordShifts", unfollowed := true, recurses := true, named := ["weephole/op.operators"], apart := false, laid := [("weephole/op.operators", laid_weephole_op_operators)], narrowed := true }
def WordShiftsUptoSaid : Prop := wordShiftsUptoRow.holds Tryd.pinned (OpenSpec.upto wordShiftsSpec)

/-- 'weepholelaw09.WordParts', WHERE WHAT IT READS IS OF BULK AT MOST 1048576: true; the input reads as it did. -/
def wordPartsUptoRow : OpenClaim := { program := "ytldcekejbnhloaadoor", sum := "c9d8164f6ef2183126f426ceb0820bb5edbe593b62cbe95d874cf61775354a08", func := "weephole/weepholelaw09.WordParts", spec := "wordParts", unfollowed := true, recurses := true, named := ["weephole/op.operators"], apart := false, laid := [("weephole/op.operators", laid_weephole_op_operators)], narrowed := true }
def WordPartsUptoSaid : Prop := wordPartsUptoRow.holds Tryd.pinned (OpenSpec.upto wordPartsSpec)

end Rows
end Go.Proofs.YtldcekejbnhloaaDoor
