/-
  No cell of these rows narrows 'for every input' (looked for: loops, veiled, ifaces, maps, wideKeys, modest, calm, conditions, laid).
  DERIVED. THE GIVEN ROWS OF THIS SEAT. 9 by the template 'for every input the law returns true; each argument reads behind the call as it read before'; 0 by the template 'total and deterministic' (their statements: YtbljkbdbiceokaaTotals.lean).
  GIVEN WITH THE SEED: the statements are not yours to turn. If you find one false, say at which input.
  Laid BY PROGRAM, IN A SANDBOX (cutbox-rows.mjs): the forced cells as the released guide's own fill.sh prints them over the translation 9398798c476e5b70… (all of the seat's roots in one cut). By AI agents, Wed Nov 11 2026. No macro, syntax, notation, axiom, sorry.
-/
import Derived.Test.YtbljkbdbiceokaaChecked
import GoSem.Claim
import GoSem.ClaimJoined
import GoSem.ClaimMapViews
import Derived.JoinedTies
import Derived.KernelRfl
namespace Go.Proofs.Ytbljkbdbiceokaa
/- THE CELL 'sum', in the pinned program and in every row, IS THE sha256 OF THE DUMP (.gsa) THAT YtbljkbdbiceokaaProg.lean LOADS. Nothing in Lean hashes anything: it is a label: what it is worth is what the hold of that sum in a sandbox is worth. -/
noncomputable def Try.pinned : Pinned := { name := "ytbljkbdbiceokaa", sum := "9398798c476e5b70d1a368ea84e5357ea7b31f2e34fa2101e80abd15150d8857", checked := Try.checked }
namespace Rows
def none {H : Type} : Left H := { results := [], args := [] }

/-- 'weepholelaw05.RupImplies': WHATEVER THE INPUT: true; the input reads as it did. -/
def rupImpliesSpec : ChangeSpec := { name := "rupImplies", fn := fun _ => fun
  | [d1, d2, d3] => { results := [.lit (.bool true)], args := [d1, d2, d3] }
  | _ => none }
def rupImpliesRow : OpenClaim := { program := "ytbljkbdbiceokaa", sum := "9398798c476e5b70d1a368ea84e5357ea7b31f2e34fa2101e80abd15150d8857", func := "weephole/weepholelaw05.RupImplies", spec := "rupImplies", unfollowed := true, recurses := true, apart := false }
def RupImpliesSaid : Prop := rupImpliesRow.holds Try.pinned (OpenSpec.ofChange rupImpliesSpec)

/-- ITS FALSE NEIGHBOUR: 'it returns false'. Refute it at one input. -/
def rupImpliesWrong : ChangeSpec := { name := "rupImplies", fn := fun _ => fun
  | [d1, d2, d3] => { results := [.lit (.bool false)], args := [d1, d2, d3] }
  | _ => none }
def RupImpliesWrongFalsely : Prop := rupImpliesRow.holds Try.pinned (OpenSpec.ofChange rupImpliesWrong)

/-- 'weepholelaw05.RupChecks': WHATEVER THE INPUT: true; the input reads as it did. -/
def rupChecksSpec : ChangeSpec := { name := "rupChecks", fn := fun _ => fun
  | [d1, d2, d3] => { results := [.lit (.bool true)], args := [d1, d2, d3] }
  | _ => none }
def rupChecksRow : OpenClaim := { program := "ytbljkbdbiceokaa", sum := "9398798c476e5b70d1a368ea84e5357ea7b31f2e34fa2101e80abd15150d8857", func := "weephole/weepholelaw05.RupChecks", spec := "rupChecks", unfollowed := true, recurses := true, apart := false }
def RupChecksSaid : Prop := rupChecksRow.holds Try.pinned (OpenSpec.ofChange rupChecksSpec)

/-- ITS FALSE NEIGHBOUR: 'it returns false'. Refute it at one input. -/
def rupChecksWrong : ChangeSpec := { name := "rupChecks", fn := fun _ => fun
  | [d1, d2, d3] => { results := [.lit (.bool false)], args := [d1, d2, d3] }
  | _ => none }
def RupChecksWrongFalsely : Prop := rupChecksRow.holds Try.pinned (OpenSpec.ofChange rupChecksWrong)

/-- 'weepholelaw05.RupOdd': WHATEVER THE INPUT: true; the input reads as it did. -/
def rupOddSpec : ChangeSpec := { name := "rupOdd", fn := fun _ => fun
  | [d1, d2] => { results := [.lit (.bool true)], args := [d1, d2] }
  | _ => none }
def rupOddRow : OpenClaim := { program := "ytbljkbdbiceokaa", sum := "9398798c476e5b70d1a368ea84e5357ea7b31f2e34fa2101e80abd15150d8857", func := "weephole/weepholelaw05.RupOdd", spec := "rupOdd", unfollowed := true, recurses := true, apart := false }
def RupOddSaid : Prop := rupOddRow.holds Try.pinned (OpenSpec.ofChange rupOddSpec)

/-- ITS FALSE NEIGHBOUR: 'it returns false'. Refute it at one input. -/
def rupOddWrong : ChangeSpec := { name := "rupOdd", fn := fun _ => fun
  | [d1, d2] => { results := [.lit (.bool false)], args := [d1, d2] }
  | _ => none }
def RupOddWrongFalsely : Prop := rupOddRow.holds Try.pinned (OpenSpec.ofChange rupOddWrong)

/-- 'weepholelaw05.RupNames': WHATEVER THE INPUT: true; the input reads as it did. -/
def rupNamesSpec : ChangeSpec := { name := "rupNames", fn := fun _ => fun
  | [] => { results := [.lit (.bool true)], args := [] }
  | _ => none }
def rupNamesRow : OpenClaim := { program := "ytbljkbdbiceokaa", sum := "9398798c476e5b70d1a368ea84e5357ea7b31f2e34fa2101e80abd15150d8857", func := "weephole/weepholelaw05.RupNames", spec := "rupNames", unfollowed := true, recurses := true, apart := false }
def RupNamesSaid : Prop := rupNamesRow.holds Try.pinned (OpenSpec.ofChange rupNamesSpec)

/-- ITS FALSE NEIGHBOUR: 'it returns false'. Refute it at one input. -/
def rupNamesWrong : ChangeSpec := { name := "rupNames", fn := fun _ => fun
  | [] => { results := [.lit (.bool false)], args := [] }
  | _ => none }
def RupNamesWrongFalsely : Prop := rupNamesRow.holds Try.pinned (OpenSpec.ofChange rupNamesWrong)

/-- 'weepholelaw05.RupSound': WHATEVER THE INPUT: true; the input reads as it did. -/
def rupSoundSpec : ChangeSpec := { name := "rupSound", fn := fun _ => fun
  | [d1, d2, d3, d4] => { results := [.lit (.bool true)], args := [d1, d2, d3, d4] }
  | _ => none }
def rupSoundRow : OpenClaim := { program := "ytbljkbdbiceokaa", sum := "9398798c476e5b70d1a368ea84e5357ea7b31f2e34fa2101e80abd15150d8857", func := "weephole/weepholelaw05.RupSound", spec := "rupSound", unfollowed := true, recurses := true, apart := false }
def RupSoundSaid : Prop := rupSoundRow.holds Try.pinned (OpenSpec.ofChange rupSoundSpec)

/-- ITS FALSE NEIGHBOUR: 'it returns false'. Refute it at one input. -/
def rupSoundWrong : ChangeSpec := { name := "rupSound", fn := fun _ => fun
  | [d1, d2, d3, d4] => { results := [.lit (.bool false)], args := [d1, d2, d3, d4] }
  | _ => none }
def RupSoundWrongFalsely : Prop := rupSoundRow.holds Try.pinned (OpenSpec.ofChange rupSoundWrong)

/-- 'weepholelaw05.RupOwn': WHATEVER THE INPUT: true; the input reads as it did. -/
def rupOwnSpec : ChangeSpec := { name := "rupOwn", fn := fun _ => fun
  | [d1, d2, d3] => { results := [.lit (.bool true)], args := [d1, d2, d3] }
  | _ => none }
def rupOwnRow : OpenClaim := { program := "ytbljkbdbiceokaa", sum := "9398798c476e5b70d1a368ea84e5357ea7b31f2e34fa2101e80abd15150d8857", func := "weephole/weepholelaw05.RupOwn", spec := "rupOwn", unfollowed := true, recurses := true, apart := false }
def RupOwnSaid : Prop := rupOwnRow.holds Try.pinned (OpenSpec.ofChange rupOwnSpec)

/-- ITS FALSE NEIGHBOUR: 'it returns false'. Refute it at one input. -/
def rupOwnWrong : ChangeSpec := { name := "rupOwn", fn := fun _ => fun
  | [d1, d2, d3] => { results := [.lit (.bool false)], args := [d1, d2, d3] }
  | _ => none }
def RupOwnWrongFalsely : Prop := rupOwnRow.holds Try.pinned (OpenSpec.ofChange rupOwnWrong)

/-- 'weepholelaw05.RupMore': WHATEVER THE INPUT: true; the input reads as it did. -/
def rupMoreSpec : ChangeSpec := { name := "rupMore", fn := fun _ => fun
  | [d1, d2, d3, d4] => { results := [.lit (.bool true)], args := [d1, d2, d3, d4] }
  | _ => none }
def rupMoreRow : OpenClaim := { program := "ytbljkbdbiceokaa", sum := "9398798c476e5b70d1a368ea84e5357ea7b31f2e34fa2101e80abd15150d8857", func := "weephole/weepholelaw05.RupMore", spec := "rupMore", unfollowed := true, recurses := true, apart := false }
def RupMoreSaid : Prop := rupMoreRow.holds Try.pinned (OpenSpec.ofChange rupMoreSpec)

/-- ITS FALSE NEIGHBOUR: 'it returns false'. Refute it at one input. -/
def rupMoreWrong : ChangeSpec := { name := "rupMore", fn := fun _ => fun
  | [d1, d2, d3, d4] => { results := [.lit (.bool false)], args := [d1, d2, d3, d4] }
  | _ => none }
def RupMoreWrongFalsely : Prop := rupMoreRow.holds Try.pinned (OpenSpec.ofChange rupMoreWrong)

/-- 'weepholelaw05.RupPrefix': WHATEVER THE INPUT: true; the input reads as it did. -/
def rupPrefixSpec : ChangeSpec := { name := "rupPrefix", fn := fun _ => fun
  | [d1, d2, d3] => { results := [.lit (.bool true)], args := [d1, d2, d3] }
  | _ => none }
def rupPrefixRow : OpenClaim := { program := "ytbljkbdbiceokaa", sum := "9398798c476e5b70d1a368ea84e5357ea7b31f2e34fa2101e80abd15150d8857", func := "weephole/weepholelaw05.RupPrefix", spec := "rupPrefix", unfollowed := true, recurses := true, apart := false }
def RupPrefixSaid : Prop := rupPrefixRow.holds Try.pinned (OpenSpec.ofChange rupPrefixSpec)

/-- ITS FALSE NEIGHBOUR: 'it returns false'. Refute it at one input. -/
def rupPrefixWrong : ChangeSpec := { name := "rupPrefix", fn := fun _ => fun
  | [d1, d2, d3] => { results := [.lit (.bool false)], args := [d1, d2, d3] }
  | _ => none }
def RupPrefixWrongFalsely : Prop := rupPrefixRow.holds Try.pinned (OpenSpec.ofChange rupPrefixWrong)

/-- 'weepholelaw05.RupEmpty': WHATEVER THE INPUT: true; the input reads as it did. -/
def rupEmptySpec : ChangeSpec := { name := "rupEmpty", fn := fun _ => fun
  | [d1, d2, d3] => { results := [.lit (.bool true)], args := [d1, d2, d3] }
  | _ => none }
def rupEmptyRow : OpenClaim := { program := "ytbljkbdbiceokaa", sum := "9398798c476e5b70d1a368ea84e5357ea7b31f2e34fa2101e80abd15150d8857", func := "weephole/weepholelaw05.RupEmpty", spec := "rupEmpty", unfollowed := true, recurses := true, apart := false }
def RupEmptySaid : Prop := rupEmptyRow.holds Try.pinned (OpenSpec.ofChange rupEmptySpec)

/-- ITS FALSE NEIGHBOUR: 'it returns false'. Refute it at one input. -/
def rupEmptyWrong : ChangeSpec := { name := "rupEmpty", fn := fun _ => fun
  | [d1, d2, d3] => { results := [.lit (.bool false)], args := [d1, d2, d3] }
  | _ => none }
def RupEmptyWrongFalsely : Prop := rupEmptyRow.holds Try.pinned (OpenSpec.ofChange rupEmptyWrong)

/- THE SECOND FORM. 'bulk': how many values and letters a reading holds, each counted each time it is reached (what is shared counts as often as it is met; a slice's spare places count too). A statement '..UptoSaid' is the law's where the arguments, and the package variables that the reading takes, are together of bulk at most 1048576: NARROWER than '..Said'. Prove '..Said' where nothing that the law and all that it calls make is longer than what came in: it says more and counts as full. Else prove '..UptoSaid'. A law counts once. -/
mutual
def uptoBulk {H : Type} : DataW H → Nat
  | .lit (.string bytes) => bytes.length + 1
  | .lit _ => 1
  | .nil => 1
  | .ptr d => uptoBulk d + 1
  | .slice elems spare => uptoBulkAll elems + uptoBulkAll spare + 1
  | .agg parts => uptoBulkAll parts + 1
  | .iface _ d => uptoBulk d + 1
  | .map entries => uptoBulkEntries entries + 1
  | .held _ => 1
def uptoBulkAll {H : Type} : List (DataW H) → Nat
  | [] => 0
  | d :: r => uptoBulk d + uptoBulkAll r
def uptoBulkEntries {H : Type} : List (Lit × DataW H) → Nat
  | [] => 0
  | x :: r => uptoBulkEntry x + uptoBulkEntries r
def uptoBulkEntry {H : Type} : Lit × DataW H → Nat
  | (.string bytes, d) => bytes.length + uptoBulk d + 1
  | (_, d) => uptoBulk d + 1
 end
def uptoSmall : (H : Type) → List (DataW H) → Bool := fun _ ds => decide (uptoBulkAll ds ≤ 1048576)
def OpenSpec.upto (s : _root_.Go.ChangeSpec) : _root_.Go.OpenSpec := { _root_.Go.OpenSpec.ofChange s with cond := some uptoSmall }

/-- 'weepholelaw05.RupImplies', WHERE WHAT IT READS IS OF BULK AT MOST 1048576: true; the input reads as it did. -/
def rupImpliesUptoRow : OpenClaim := { program := "ytbljkbdbiceokaa", sum := "9398798c476e5b70d1a368ea84e5357ea7b31f2e34fa2101e80abd15150d8857", func := "weephole/weepholelaw05.RupImplies", spec := "rupImplies", unfollowed := true, recurses := true, apart := false, narrowed := true }
def RupImpliesUptoSaid : Prop := rupImpliesUptoRow.holds Try.pinned (OpenSpec.upto rupImpliesSpec)

/-- 'weepholelaw05.RupChecks', WHERE WHAT IT READS IS OF BULK AT MOST 1048576: true; the input reads as it did. -/
def rupChecksUptoRow : OpenClaim := { program := "ytbljkbdbiceokaa", sum := "9398798c476e5b70d1a368ea84e5357ea7b31f2e34fa2101e80abd15150d8857", func := "weephole/weepholelaw05.RupChecks", spec := "rupChecks", unfollowed := true, recurses := true, apart := false, narrowed := true }
def RupChecksUptoSaid : Prop := rupChecksUptoRow.holds Try.pinned (OpenSpec.upto rupChecksSpec)

/-- 'weepholelaw05.RupOdd', WHERE WHAT IT READS IS OF BULK AT MOST 1048576: true; the input reads as it did. -/
def rupOddUptoRow : OpenClaim := { program := "ytbljkbdbiceokaa", sum := "9398798c476e5b70d1a368ea84e5357ea7b31f2e34fa2101e80abd15150d8857", func := "weephole/weepholelaw05.RupOdd", spec := "rupOdd", unfollowed := true, recurses := true, apart := false, narrowed := true }
def RupOddUptoSaid : Prop := rupOddUptoRow.holds Try.pinned (OpenSpec.upto rupOddSpec)

/-- 'weepholelaw05.RupNames', WHERE WHAT IT READS IS OF BULK AT MOST 1048576: true; the input reads as it did. -/
def rupNamesUptoRow : OpenClaim := { program := "ytbljkbdbiceokaa", sum := "9398798c476e5b70d1a368ea84e5357ea7b31f2e34fa2101e80abd15150d8857", func := "weephole/weepholelaw05.RupNames", spec := "rupNames", unfollowed := true, recurses := true, apart := false, narrowed := true }
def RupNamesUptoSaid : Prop := rupNamesUptoRow.holds Try.pinned (OpenSpec.upto rupNamesSpec)

/-- 'weepholelaw05.RupSound', WHERE WHAT IT READS IS OF BULK AT MOST 1048576: true; the input reads as it did. -/
def rupSoundUptoRow : OpenClaim := { program := "ytbljkbdbiceokaa", sum := "9398798c476e5b70d1a368ea84e5357ea7b31f2e34fa2101e80abd15150d8857", func := "weephole/weepholelaw05.RupSound", spec := "rupSound", unfollowed := true, recurses := true, apart := false, narrowed := true }
def RupSoundUptoSaid : Prop := rupSoundUptoRow.holds Try.pinned (OpenSpec.upto rupSoundSpec)

/-- 'weepholelaw05.RupOwn', WHERE WHAT IT READS IS OF BULK AT MOST 1048576: true; the input reads as it did. -/
def rupOwnUptoRow : OpenClaim := { program := "ytbljkbdbiceokaa", sum := "9398798c476e5b70d1a368ea84e5357ea7b31f2e34fa2101e80abd15150d8857", func := "weephole/weepholelaw05.RupOwn", spec := "rupOwn", unfollowed := true, recurses := true, apart := false, narrowed := true }
def RupOwnUptoSaid : Prop := rupOwnUptoRow.holds Try.pinned (OpenSpec.upto rupOwnSpec)

/-- 'weepholelaw05.RupMore', WHERE WHAT IT READS IS OF BULK AT MOST 1048576: true; the input reads as it did. -/
def rupMoreUptoRow : OpenClaim := { program := "ytbljkbdbiceokaa", sum := "9398798c476e5b70d1a368ea84e5357ea7b31f2e34fa2101e80abd15150d8857", func := "weephole/weepholelaw05.RupMore", spec := "rupMore", unfollowed := true, recurses := true, apart := false, narrowed := true }
def RupMoreUptoSaid : Prop := rupMoreUptoRow.holds Try.pinned (OpenSpec.upto rupMoreSpec)

/-- 'weepholelaw05.RupPrefix', WHERE WHAT IT READS IS OF BULK AT MOST 1048576: true; the input reads as it did. -/
def rupPrefixUptoRow : OpenClaim := { program := "ytbljkbdbiceokaa", sum := "9398798c476e5b70d1a368ea84e5357ea7b31f2e34fa2101e80abd15150d8857", func := "weephole/weepholelaw05.RupPrefix", spec := "rupPrefix", unfollowed := true, recurses := true, apart := false, narrowed := true }
def RupPrefixUptoSaid : Prop := rupPrefixUptoRow.holds Try.pinned (OpenSpec.upto rupPrefixSpec)

/-- 'weepholelaw05.RupEmpty', WHERE WHAT IT READS IS OF BULK AT MOST 1048576: true; the input reads as it did. -/
def rupEmptyUptoRow : OpenClaim := { program := "ytbljkbdbiceokaa", sum := "9398798c476e5b70d1a368ea84e5357ea7b31f2e34fa2101e80abd15150d8857", func := "weephole/weepholelaw05.RupEmpty", spec := "rupEmpty", unfollowed := true, recurses := true, apart := false, narrowed := true }
def RupEmptyUptoSaid : Prop := rupEmptyUptoRow.holds Try.pinned (OpenSpec.upto rupEmptySpec)

end Rows
end Go.Proofs.Ytbljkbdbiceokaa
