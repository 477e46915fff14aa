/-
  No cell of these rows narrows 'for every input' (looked for: loops, veiled, ifaces, maps, wideKeys, modest, calm, conditions, laid).
  DERIVED. THE GIVEN ROWS OF THIS SEAT. 8 by the template 'for every input the law returns true; each argument reads behind the call as it read before'; 0 by the template 'total and deterministic' (their statements: YtnkemkgepipjcaaTotals.lean).
  GIVEN WITH THE SEED: the statements are not yours to turn. If you find one false, say at which input.
  Laid BY PROGRAM, IN A SANDBOX (cutbox-rows.mjs): the forced cells as the released guide's own fill.sh prints them over the translation cbe4e0b9a1ddecee… (all of the seat's roots in one cut). By AI agents, Wed Nov 11 2026. No macro, syntax, notation, axiom, sorry.
-/
import Derived.Test.YtnkemkgepipjcaaChecked
import GoSem.Claim
import GoSem.ClaimJoined
import GoSem.ClaimMapViews
import Derived.JoinedTies
import Derived.KernelRfl
namespace Go.Proofs.Ytnkemkgepipjcaa
/- THE CELL 'sum', in the pinned program and in every row, IS THE sha256 OF THE DUMP (.gsa) THAT YtnkemkgepipjcaaProg.lean LOADS. Nothing in Lean hashes anything: it is a label: what it is worth is what the hold of that sum in a sandbox is worth. -/
noncomputable def Try.pinned : Pinned := { name := "ytnkemkgepipjcaa", sum := "cbe4e0b9a1ddecee95918d6b1ab1bde1e9204efb0547f21555636ec8a62f7869", checked := Try.checked }
namespace Rows
def none {H : Type} : Left H := { results := [], args := [] }

/-- 'weepholelaw02.CnfChecks': WHATEVER THE INPUT: true; the input reads as it did. -/
def cnfChecksSpec : ChangeSpec := { name := "cnfChecks", fn := fun _ => fun
  | [d] => { results := [.lit (.bool true)], args := [d] }
  | _ => none }
def cnfChecksRow : OpenClaim := { program := "ytnkemkgepipjcaa", sum := "cbe4e0b9a1ddecee95918d6b1ab1bde1e9204efb0547f21555636ec8a62f7869", func := "weephole/weepholelaw02.CnfChecks", spec := "cnfChecks", apart := false }
def CnfChecksSaid : Prop := cnfChecksRow.holds Try.pinned (OpenSpec.ofChange cnfChecksSpec)

/-- ITS FALSE NEIGHBOUR: 'it returns false'. Refute it at one input. -/
def cnfChecksWrong : ChangeSpec := { name := "cnfChecks", fn := fun _ => fun
  | [d] => { results := [.lit (.bool false)], args := [d] }
  | _ => none }
def CnfChecksWrongFalsely : Prop := cnfChecksRow.holds Try.pinned (OpenSpec.ofChange cnfChecksWrong)

/-- 'weepholelaw02.CnfFirsts': WHATEVER THE INPUT: true; the input reads as it did. -/
def cnfFirstsSpec : ChangeSpec := { name := "cnfFirsts", fn := fun _ => fun
  | [d1, d2] => { results := [.lit (.bool true)], args := [d1, d2] }
  | _ => none }
def cnfFirstsRow : OpenClaim := { program := "ytnkemkgepipjcaa", sum := "cbe4e0b9a1ddecee95918d6b1ab1bde1e9204efb0547f21555636ec8a62f7869", func := "weephole/weepholelaw02.CnfFirsts", spec := "cnfFirsts", apart := false }
def CnfFirstsSaid : Prop := cnfFirstsRow.holds Try.pinned (OpenSpec.ofChange cnfFirstsSpec)

/-- ITS FALSE NEIGHBOUR: 'it returns false'. Refute it at one input. -/
def cnfFirstsWrong : ChangeSpec := { name := "cnfFirsts", fn := fun _ => fun
  | [d1, d2] => { results := [.lit (.bool false)], args := [d1, d2] }
  | _ => none }
def CnfFirstsWrongFalsely : Prop := cnfFirstsRow.holds Try.pinned (OpenSpec.ofChange cnfFirstsWrong)

/-- 'weepholelaw02.CnfCopies': WHATEVER THE INPUT: true; the input reads as it did. -/
def cnfCopiesSpec : ChangeSpec := { name := "cnfCopies", fn := fun _ => fun
  | [d1, d2, d3, d4] => { results := [.lit (.bool true)], args := [d1, d2, d3, d4] }
  | _ => none }
def cnfCopiesRow : OpenClaim := { program := "ytnkemkgepipjcaa", sum := "cbe4e0b9a1ddecee95918d6b1ab1bde1e9204efb0547f21555636ec8a62f7869", func := "weephole/weepholelaw02.CnfCopies", spec := "cnfCopies", unfollowed := true, recurses := true, apart := false }
def CnfCopiesSaid : Prop := cnfCopiesRow.holds Try.pinned (OpenSpec.ofChange cnfCopiesSpec)

/-- ITS FALSE NEIGHBOUR: 'it returns false'. Refute it at one input. -/
def cnfCopiesWrong : ChangeSpec := { name := "cnfCopies", fn := fun _ => fun
  | [d1, d2, d3, d4] => { results := [.lit (.bool false)], args := [d1, d2, d3, d4] }
  | _ => none }
def CnfCopiesWrongFalsely : Prop := cnfCopiesRow.holds Try.pinned (OpenSpec.ofChange cnfCopiesWrong)

/-- 'weepholelaw02.CnfNames': WHATEVER THE INPUT: true; the input reads as it did. -/
def cnfNamesSpec : ChangeSpec := { name := "cnfNames", fn := fun _ => fun
  | [] => { results := [.lit (.bool true)], args := [] }
  | _ => none }
def cnfNamesRow : OpenClaim := { program := "ytnkemkgepipjcaa", sum := "cbe4e0b9a1ddecee95918d6b1ab1bde1e9204efb0547f21555636ec8a62f7869", func := "weephole/weepholelaw02.CnfNames", spec := "cnfNames", unfollowed := true, recurses := true, apart := false }
def CnfNamesSaid : Prop := cnfNamesRow.holds Try.pinned (OpenSpec.ofChange cnfNamesSpec)

/-- ITS FALSE NEIGHBOUR: 'it returns false'. Refute it at one input. -/
def cnfNamesWrong : ChangeSpec := { name := "cnfNames", fn := fun _ => fun
  | [] => { results := [.lit (.bool false)], args := [] }
  | _ => none }
def CnfNamesWrongFalsely : Prop := cnfNamesRow.holds Try.pinned (OpenSpec.ofChange cnfNamesWrong)

/-- 'weepholelaw02.CnfAll': WHATEVER THE INPUT: true; the input reads as it did. -/
def cnfAllSpec : ChangeSpec := { name := "cnfAll", fn := fun _ => fun
  | [d1, d2, d3] => { results := [.lit (.bool true)], args := [d1, d2, d3] }
  | _ => none }
def cnfAllRow : OpenClaim := { program := "ytnkemkgepipjcaa", sum := "cbe4e0b9a1ddecee95918d6b1ab1bde1e9204efb0547f21555636ec8a62f7869", func := "weephole/weepholelaw02.CnfAll", spec := "cnfAll", apart := false }
def CnfAllSaid : Prop := cnfAllRow.holds Try.pinned (OpenSpec.ofChange cnfAllSpec)

/-- ITS FALSE NEIGHBOUR: 'it returns false'. Refute it at one input. -/
def cnfAllWrong : ChangeSpec := { name := "cnfAll", fn := fun _ => fun
  | [d1, d2, d3] => { results := [.lit (.bool false)], args := [d1, d2, d3] }
  | _ => none }
def CnfAllWrongFalsely : Prop := cnfAllRow.holds Try.pinned (OpenSpec.ofChange cnfAllWrong)

/-- 'weepholelaw02.CnfMore': WHATEVER THE INPUT: true; the input reads as it did. -/
def cnfMoreSpec : ChangeSpec := { name := "cnfMore", fn := fun _ => fun
  | [d1, d2, d3, d4] => { results := [.lit (.bool true)], args := [d1, d2, d3, d4] }
  | _ => none }
def cnfMoreRow : OpenClaim := { program := "ytnkemkgepipjcaa", sum := "cbe4e0b9a1ddecee95918d6b1ab1bde1e9204efb0547f21555636ec8a62f7869", func := "weephole/weepholelaw02.CnfMore", spec := "cnfMore", apart := false }
def CnfMoreSaid : Prop := cnfMoreRow.holds Try.pinned (OpenSpec.ofChange cnfMoreSpec)

/-- ITS FALSE NEIGHBOUR: 'it returns false'. Refute it at one input. -/
def cnfMoreWrong : ChangeSpec := { name := "cnfMore", fn := fun _ => fun
  | [d1, d2, d3, d4] => { results := [.lit (.bool false)], args := [d1, d2, d3, d4] }
  | _ => none }
def CnfMoreWrongFalsely : Prop := cnfMoreRow.holds Try.pinned (OpenSpec.ofChange cnfMoreWrong)

/-- 'weepholelaw02.CnfNormal': WHATEVER THE INPUT: true; the input reads as it did. -/
def cnfNormalSpec : ChangeSpec := { name := "cnfNormal", fn := fun _ => fun
  | [d1, d2, d3] => { results := [.lit (.bool true)], args := [d1, d2, d3] }
  | _ => none }
def cnfNormalRow : OpenClaim := { program := "ytnkemkgepipjcaa", sum := "cbe4e0b9a1ddecee95918d6b1ab1bde1e9204efb0547f21555636ec8a62f7869", func := "weephole/weepholelaw02.CnfNormal", spec := "cnfNormal", unfollowed := true, recurses := true, apart := false }
def CnfNormalSaid : Prop := cnfNormalRow.holds Try.pinned (OpenSpec.ofChange cnfNormalSpec)

/-- ITS FALSE NEIGHBOUR: 'it returns false'. Refute it at one input. -/
def cnfNormalWrong : ChangeSpec := { name := "cnfNormal", fn := fun _ => fun
  | [d1, d2, d3] => { results := [.lit (.bool false)], args := [d1, d2, d3] }
  | _ => none }
def CnfNormalWrongFalsely : Prop := cnfNormalRow.holds Try.pinned (OpenSpec.ofChange cnfNormalWrong)

/-- 'weepholelaw02.CnfUnused': WHATEVER THE INPUT: true; the input reads as it did. -/
def cnfUnusedSpec : ChangeSpec := { name := "cnfUnused", fn := fun _ => fun
  | [d1, d2, d3, d4] => { results := [.lit (.bool true)], args := [d1, d2, d3, d4] }
  | _ => none }
def cnfUnusedRow : OpenClaim := { program := "ytnkemkgepipjcaa", sum := "cbe4e0b9a1ddecee95918d6b1ab1bde1e9204efb0547f21555636ec8a62f7869", func := "weephole/weepholelaw02.CnfUnused", spec := "cnfUnused", apart := false }
def CnfUnusedSaid : Prop := cnfUnusedRow.holds Try.pinned (OpenSpec.ofChange cnfUnusedSpec)

/-- ITS FALSE NEIGHBOUR: 'it returns false'. Refute it at one input. -/
def cnfUnusedWrong : ChangeSpec := { name := "cnfUnused", fn := fun _ => fun
  | [d1, d2, d3, d4] => { results := [.lit (.bool false)], args := [d1, d2, d3, d4] }
  | _ => none }
def CnfUnusedWrongFalsely : Prop := cnfUnusedRow.holds Try.pinned (OpenSpec.ofChange cnfUnusedWrong)

/- THE SECOND FORM. 'bulk': how many values and letters a reading holds, each counted each time it is reached (what is shared counts as often as it is met; a slice's spare places count too). A statement '..UptoSaid' is the law's where the arguments, and the package variables that the reading takes, are together of bulk at most 1048576: NARROWER than '..Said'. Prove '..Said' where nothing that the law and all that it calls make is longer than what came in: it says more and counts as full. Else prove '..UptoSaid'. A law counts once. -/
mutual
def uptoBulk {H : Type} : DataW H → Nat
  | .lit (.string bytes) => bytes.length + 1
  | .lit _ => 1
  | .nil => 1
  | .ptr d => uptoBulk d + 1
  | .slice elems spare => uptoBulkAll elems + uptoBulkAll spare + 1
  | .agg parts => uptoBulkAll parts + 1
  | .iface _ d => uptoBulk d + 1
  | .map entries => uptoBulkEntries entries + 1
  | .held _ => 1
def uptoBulkAll {H : Type} : List (DataW H) → Nat
  | [] => 0
  | d :: r => uptoBulk d + uptoBulkAll r
def uptoBulkEntries {H : Type} : List (Lit × DataW H) → Nat
  | [] => 0
  | x :: r => uptoBulkEntry x + uptoBulkEntries r
def uptoBulkEntry {H : Type} : Lit × DataW H → Nat
  | (.string bytes, d) => bytes.length + uptoBulk d + 1
  | (_, d) => uptoBulk d + 1
 end
def uptoSmall : (H : Type) → List (DataW H) → Bool := fun _ ds => decide (uptoBulkAll ds ≤ 1048576)
def OpenSpec.upto (s : _root_.Go.ChangeSpec) : _root_.Go.OpenSpec := { _root_.Go.OpenSpec.ofChange s with cond := some uptoSmall }

/-- 'weepholelaw02.CnfChecks', WHERE WHAT IT READS IS OF BULK AT MOST 1048576: true; the input reads as it did. -/
def cnfChecksUptoRow : OpenClaim := { program := "ytnkemkgepipjcaa", sum := "cbe4e0b9a1ddecee95918d6b1ab1bde1e9204efb0547f21555636ec8a62f7869", func := "weephole/weepholelaw02.CnfChecks", spec := "cnfChecks", apart := false, narrowed := true }
def CnfChecksUptoSaid : Prop := cnfChecksUptoRow.holds Try.pinned (OpenSpec.upto cnfChecksSpec)

/-- 'weepholelaw02.CnfFirsts', WHERE WHAT IT READS IS OF BULK AT MOST 1048576: true; the input reads as it did. -/
def cnfFirstsUptoRow : OpenClaim := { program := "ytnkemkgepipjcaa", sum := "cbe4e0b9a1ddecee95918d6b1ab1bde1e9204efb0547f21555636ec8a62f7869", func := "weephole/weepholelaw02.CnfFirsts", spec := "cnfFirsts", apart := false, narrowed := true }
def CnfFirstsUptoSaid : Prop := cnfFirstsUptoRow.holds Try.pinned (OpenSpec.upto cnfFirstsSpec)

/-- 'weepholelaw02.CnfCopies', WHERE WHAT IT READS IS OF BULK AT MOST 1048576: true; the input reads as it did. -/
def cnfCopiesUptoRow : OpenClaim := { program := "ytnkemkgepipjcaa", sum := "cbe4e0b9a1ddecee95918d6b1ab1bde1e9204efb0547f21555636ec8a62f7869", func := "weephole/weepholelaw02.CnfCopies", spec := "cnfCopies", unfollowed := true, recurses := true, apart := false, narrowed := true }
def CnfCopiesUptoSaid : Prop := cnfCopiesUptoRow.holds Try.pinned (OpenSpec.upto cnfCopiesSpec)

/-- 'weepholelaw02.CnfNames', WHERE WHAT IT READS IS OF BULK AT MOST 1048576: true; the input reads as it did. -/
def cnfNamesUptoRow : OpenClaim := { program := "ytnkemkgepipjcaa", sum := "cbe4e0b9a1ddecee95918d6b1ab1bde1e9204efb0547f21555636ec8a62f7869", func := "weephole/weepholelaw02.CnfNames", spec := "cnfNames", unfollowed := true, recurses := true, apart := false, narrowed := true }
def CnfNamesUptoSaid : Prop := cnfNamesUptoRow.holds Try.pinned (OpenSpec.upto cnfNamesSpec)

/-- 'weepholelaw02.CnfAll', WHERE WHAT IT READS IS OF BULK AT MOST 1048576: true; the input reads as it did. -/
def cnfAllUptoRow : OpenClaim := { program := "ytnkemkgepipjcaa", sum := "cbe4e0b9a1ddecee95918d6b1ab1bde1e9204efb0547f21555636ec8a62f7869", func := "weephole/weepholelaw02.CnfAll", spec := "cnfAll", apart := false, narrowed := true }
def CnfAllUptoSaid : Prop := cnfAllUptoRow.holds Try.pinned (OpenSpec.upto cnfAllSpec)

/-- 'weepholelaw02.CnfMore', WHERE WHAT IT READS IS OF BULK AT MOST 1048576: true; the input reads as it did. -/
def cnfMoreUptoRow : OpenClaim := { program := "ytnkemkgepipjcaa", sum := "cbe4e0b9a1ddecee95918d6b1ab1bde1e9204efb0547f21555636ec8a62f7869", func := "weephole/weepholelaw02.CnfMore", spec := "cnfMore", apart := false, narrowed := true }
def CnfMoreUptoSaid : Prop := cnfMoreUptoRow.holds Try.pinned (OpenSpec.upto cnfMoreSpec)

/-- 'weepholelaw02.CnfNormal', WHERE WHAT IT READS IS OF BULK AT MOST 1048576: true; the input reads as it did. -/
def cnfNormalUptoRow : OpenClaim := { program := "ytnkemkgepipjcaa", sum := "cbe4e0b9a1ddecee95918d6b1ab1bde1e9204efb0547f21555636ec8a62f7869", func := "weephole/weepholelaw02.CnfNormal", spec := "cnfNormal", unfollowed := true, recurses := true, apart := false, narrowed := true }
def CnfNormalUptoSaid : Prop := cnfNormalUptoRow.holds Try.pinned (OpenSpec.upto cnfNormalSpec)

/-- 'weepholelaw02.CnfUnused', WHERE WHAT IT READS IS OF BULK AT MOST 1048576: true; the input reads as it did. -/
def cnfUnusedUptoRow : OpenClaim := { program := "ytnkemkgepipjcaa", sum := "cbe4e0b9a1ddecee95918d6b1ab1bde1e9204efb0547f21555636ec8a62f7869", func := "weephole/weepholelaw02.CnfUnused", spec := "cnfUnused", apart := false, narrowed := true }
def CnfUnusedUptoSaid : Prop := cnfUnusedUptoRow.holds Try.pinned (OpenSpec.upto cnfUnusedSpec)

end Rows
end Go.Proofs.Ytnkemkgepipjcaa
