/-
  No cell of these rows narrows 'for every input' (looked for: loops, veiled, ifaces, maps, wideKeys, modest, calm, conditions, laid).
  DERIVED. THE GIVEN ROWS OF THIS SEAT. 9 by the template 'for every input the law returns true; each argument reads behind the call as it read before'; 0 by the template 'total and deterministic' (their statements: YtiddnahipdlgkaaTotals.lean).
  GIVEN WITH THE SEED: the statements are not yours to turn. If you find one false, say at which input.
  Laid BY PROGRAM, IN A SANDBOX (cutbox-rows.mjs): the forced cells as the released guide's own fill.sh prints them over the translation 8ef2dd40334a7c56… (all of the seat's roots in one cut). By AI agents, Wed Nov 11 2026. No macro, syntax, notation, axiom, sorry.
-/
import Derived.Test.YtiddnahipdlgkaaChecked
import GoSem.Claim
import GoSem.ClaimJoined
import GoSem.ClaimMapViews
import Derived.JoinedTies
import Derived.KernelRfl
namespace Go.Proofs.Ytiddnahipdlgkaa
/- THE CELL 'sum', in the pinned program and in every row, IS THE sha256 OF THE DUMP (.gsa) THAT YtiddnahipdlgkaaProg.lean LOADS. Nothing in Lean hashes anything: it is a label: what it is worth is what the hold of that sum in a sandbox is worth. -/
noncomputable def Try.pinned : Pinned := { name := "ytiddnahipdlgkaa", sum := "8ef2dd40334a7c56eb708de2709ab8a377a14df5622c5b87444877d5a07ad0ea", checked := Try.checked }
namespace Rows
def none {H : Type} : Left H := { results := [], args := [] }

/-- 'weepholelaw01.LitChecks': WHATEVER THE INPUT: true; the input reads as it did. -/
def litChecksSpec : ChangeSpec := { name := "litChecks", fn := fun _ => fun
  | [d1, d2] => { results := [.lit (.bool true)], args := [d1, d2] }
  | _ => none }
def litChecksRow : OpenClaim := { program := "ytiddnahipdlgkaa", sum := "8ef2dd40334a7c56eb708de2709ab8a377a14df5622c5b87444877d5a07ad0ea", func := "weephole/weepholelaw01.LitChecks", spec := "litChecks", unfollowed := true, recurses := true, apart := false }
def LitChecksSaid : Prop := litChecksRow.holds Try.pinned (OpenSpec.ofChange litChecksSpec)

/-- ITS FALSE NEIGHBOUR: 'it returns false'. Refute it at one input. -/
def litChecksWrong : ChangeSpec := { name := "litChecks", fn := fun _ => fun
  | [d1, d2] => { results := [.lit (.bool false)], args := [d1, d2] }
  | _ => none }
def LitChecksWrongFalsely : Prop := litChecksRow.holds Try.pinned (OpenSpec.ofChange litChecksWrong)

/-- 'weepholelaw01.LitNorms': WHATEVER THE INPUT: true; the input reads as it did. -/
def litNormsSpec : ChangeSpec := { name := "litNorms", fn := fun _ => fun
  | [d1, d2, d3] => { results := [.lit (.bool true)], args := [d1, d2, d3] }
  | _ => none }
def litNormsRow : OpenClaim := { program := "ytiddnahipdlgkaa", sum := "8ef2dd40334a7c56eb708de2709ab8a377a14df5622c5b87444877d5a07ad0ea", func := "weephole/weepholelaw01.LitNorms", spec := "litNorms", unfollowed := true, recurses := true, apart := false }
def LitNormsSaid : Prop := litNormsRow.holds Try.pinned (OpenSpec.ofChange litNormsSpec)

/-- ITS FALSE NEIGHBOUR: 'it returns false'. Refute it at one input. -/
def litNormsWrong : ChangeSpec := { name := "litNorms", fn := fun _ => fun
  | [d1, d2, d3] => { results := [.lit (.bool false)], args := [d1, d2, d3] }
  | _ => none }
def LitNormsWrongFalsely : Prop := litNormsRow.holds Try.pinned (OpenSpec.ofChange litNormsWrong)

/-- 'weepholelaw01.LitHolds': WHATEVER THE INPUT: true; the input reads as it did. -/
def litHoldsSpec : ChangeSpec := { name := "litHolds", fn := fun _ => fun
  | [d1, d2] => { results := [.lit (.bool true)], args := [d1, d2] }
  | _ => none }
def litHoldsRow : OpenClaim := { program := "ytiddnahipdlgkaa", sum := "8ef2dd40334a7c56eb708de2709ab8a377a14df5622c5b87444877d5a07ad0ea", func := "weephole/weepholelaw01.LitHolds", spec := "litHolds", unfollowed := true, recurses := true, apart := false }
def LitHoldsSaid : Prop := litHoldsRow.holds Try.pinned (OpenSpec.ofChange litHoldsSpec)

/-- ITS FALSE NEIGHBOUR: 'it returns false'. Refute it at one input. -/
def litHoldsWrong : ChangeSpec := { name := "litHolds", fn := fun _ => fun
  | [d1, d2] => { results := [.lit (.bool false)], args := [d1, d2] }
  | _ => none }
def LitHoldsWrongFalsely : Prop := litHoldsRow.holds Try.pinned (OpenSpec.ofChange litHoldsWrong)

/-- 'weepholelaw01.LitNames': WHATEVER THE INPUT: true; the input reads as it did. -/
def litNamesSpec : ChangeSpec := { name := "litNames", fn := fun _ => fun
  | [] => { results := [.lit (.bool true)], args := [] }
  | _ => none }
def litNamesRow : OpenClaim := { program := "ytiddnahipdlgkaa", sum := "8ef2dd40334a7c56eb708de2709ab8a377a14df5622c5b87444877d5a07ad0ea", func := "weephole/weepholelaw01.LitNames", spec := "litNames", unfollowed := true, recurses := true, apart := false }
def LitNamesSaid : Prop := litNamesRow.holds Try.pinned (OpenSpec.ofChange litNamesSpec)

/-- ITS FALSE NEIGHBOUR: 'it returns false'. Refute it at one input. -/
def litNamesWrong : ChangeSpec := { name := "litNames", fn := fun _ => fun
  | [] => { results := [.lit (.bool false)], args := [] }
  | _ => none }
def LitNamesWrongFalsely : Prop := litNamesRow.holds Try.pinned (OpenSpec.ofChange litNamesWrong)

/-- 'weepholelaw01.LitNormal': WHATEVER THE INPUT: true; the input reads as it did. -/
def litNormalSpec : ChangeSpec := { name := "litNormal", fn := fun _ => fun
  | [d1, d2] => { results := [.lit (.bool true)], args := [d1, d2] }
  | _ => none }
def litNormalRow : OpenClaim := { program := "ytiddnahipdlgkaa", sum := "8ef2dd40334a7c56eb708de2709ab8a377a14df5622c5b87444877d5a07ad0ea", func := "weephole/weepholelaw01.LitNormal", spec := "litNormal", unfollowed := true, recurses := true, apart := false }
def LitNormalSaid : Prop := litNormalRow.holds Try.pinned (OpenSpec.ofChange litNormalSpec)

/-- ITS FALSE NEIGHBOUR: 'it returns false'. Refute it at one input. -/
def litNormalWrong : ChangeSpec := { name := "litNormal", fn := fun _ => fun
  | [d1, d2] => { results := [.lit (.bool false)], args := [d1, d2] }
  | _ => none }
def LitNormalWrongFalsely : Prop := litNormalRow.holds Try.pinned (OpenSpec.ofChange litNormalWrong)

/-- 'weepholelaw01.LitMeans': WHATEVER THE INPUT: true; the input reads as it did. -/
def litMeansSpec : ChangeSpec := { name := "litMeans", fn := fun _ => fun
  | [d1, d2] => { results := [.lit (.bool true)], args := [d1, d2] }
  | _ => none }
def litMeansRow : OpenClaim := { program := "ytiddnahipdlgkaa", sum := "8ef2dd40334a7c56eb708de2709ab8a377a14df5622c5b87444877d5a07ad0ea", func := "weephole/weepholelaw01.LitMeans", spec := "litMeans", unfollowed := true, recurses := true, apart := false }
def LitMeansSaid : Prop := litMeansRow.holds Try.pinned (OpenSpec.ofChange litMeansSpec)

/-- ITS FALSE NEIGHBOUR: 'it returns false'. Refute it at one input. -/
def litMeansWrong : ChangeSpec := { name := "litMeans", fn := fun _ => fun
  | [d1, d2] => { results := [.lit (.bool false)], args := [d1, d2] }
  | _ => none }
def LitMeansWrongFalsely : Prop := litMeansRow.holds Try.pinned (OpenSpec.ofChange litMeansWrong)

/-- 'weepholelaw01.LitOpposites': WHATEVER THE INPUT: true; the input reads as it did. -/
def litOppositesSpec : ChangeSpec := { name := "litOpposites", fn := fun _ => fun
  | [d1, d2] => { results := [.lit (.bool true)], args := [d1, d2] }
  | _ => none }
def litOppositesRow : OpenClaim := { program := "ytiddnahipdlgkaa", sum := "8ef2dd40334a7c56eb708de2709ab8a377a14df5622c5b87444877d5a07ad0ea", func := "weephole/weepholelaw01.LitOpposites", spec := "litOpposites", unfollowed := true, recurses := true, apart := false }
def LitOppositesSaid : Prop := litOppositesRow.holds Try.pinned (OpenSpec.ofChange litOppositesSpec)

/-- ITS FALSE NEIGHBOUR: 'it returns false'. Refute it at one input. -/
def litOppositesWrong : ChangeSpec := { name := "litOpposites", fn := fun _ => fun
  | [d1, d2] => { results := [.lit (.bool false)], args := [d1, d2] }
  | _ => none }
def LitOppositesWrongFalsely : Prop := litOppositesRow.holds Try.pinned (OpenSpec.ofChange litOppositesWrong)

/-- 'weepholelaw01.LitOrder': WHATEVER THE INPUT: true; the input reads as it did. -/
def litOrderSpec : ChangeSpec := { name := "litOrder", fn := fun _ => fun
  | [d1, d2, d3] => { results := [.lit (.bool true)], args := [d1, d2, d3] }
  | _ => none }
def litOrderRow : OpenClaim := { program := "ytiddnahipdlgkaa", sum := "8ef2dd40334a7c56eb708de2709ab8a377a14df5622c5b87444877d5a07ad0ea", func := "weephole/weepholelaw01.LitOrder", spec := "litOrder", unfollowed := true, recurses := true, apart := false }
def LitOrderSaid : Prop := litOrderRow.holds Try.pinned (OpenSpec.ofChange litOrderSpec)

/-- ITS FALSE NEIGHBOUR: 'it returns false'. Refute it at one input. -/
def litOrderWrong : ChangeSpec := { name := "litOrder", fn := fun _ => fun
  | [d1, d2, d3] => { results := [.lit (.bool false)], args := [d1, d2, d3] }
  | _ => none }
def LitOrderWrongFalsely : Prop := litOrderRow.holds Try.pinned (OpenSpec.ofChange litOrderWrong)

/-- 'weepholelaw01.LitWeaker': WHATEVER THE INPUT: true; the input reads as it did. -/
def litWeakerSpec : ChangeSpec := { name := "litWeaker", fn := fun _ => fun
  | [d1, d2, d3, d4] => { results := [.lit (.bool true)], args := [d1, d2, d3, d4] }
  | _ => none }
def litWeakerRow : OpenClaim := { program := "ytiddnahipdlgkaa", sum := "8ef2dd40334a7c56eb708de2709ab8a377a14df5622c5b87444877d5a07ad0ea", func := "weephole/weepholelaw01.LitWeaker", spec := "litWeaker", unfollowed := true, recurses := true, apart := false }
def LitWeakerSaid : Prop := litWeakerRow.holds Try.pinned (OpenSpec.ofChange litWeakerSpec)

/-- ITS FALSE NEIGHBOUR: 'it returns false'. Refute it at one input. -/
def litWeakerWrong : ChangeSpec := { name := "litWeaker", fn := fun _ => fun
  | [d1, d2, d3, d4] => { results := [.lit (.bool false)], args := [d1, d2, d3, d4] }
  | _ => none }
def LitWeakerWrongFalsely : Prop := litWeakerRow.holds Try.pinned (OpenSpec.ofChange litWeakerWrong)

/- THE SECOND FORM. 'bulk': how many values and letters a reading holds, each counted each time it is reached (what is shared counts as often as it is met; a slice's spare places count too). A statement '..UptoSaid' is the law's where the arguments, and the package variables that the reading takes, are together of bulk at most 1048576: NARROWER than '..Said'. Prove '..Said' where nothing that the law and all that it calls make is longer than what came in: it says more and counts as full. Else prove '..UptoSaid'. A law counts once. -/
mutual
def uptoBulk {H : Type} : DataW H → Nat
  | .lit (.string bytes) => bytes.length + 1
  | .lit _ => 1
  | .nil => 1
  | .ptr d => uptoBulk d + 1
  | .slice elems spare => uptoBulkAll elems + uptoBulkAll spare + 1
  | .agg parts => uptoBulkAll parts + 1
  | .iface _ d => uptoBulk d + 1
  | .map entries => uptoBulkEntries entries + 1
  | .held _ => 1
def uptoBulkAll {H : Type} : List (DataW H) → Nat
  | [] => 0
  | d :: r => uptoBulk d + uptoBulkAll r
def uptoBulkEntries {H : Type} : List (Lit × DataW H) → Nat
  | [] => 0
  | x :: r => uptoBulkEntry x + uptoBulkEntries r
def uptoBulkEntry {H : Type} : Lit × DataW H → Nat
  | (.string bytes, d) => bytes.length + uptoBulk d + 1
  | (_, d) => uptoBulk d + 1
 end
def uptoSmall : (H : Type) → List (DataW H) → Bool := fun _ ds => decide (uptoBulkAll ds ≤ 1048576)
def OpenSpec.upto (s : _root_.Go.ChangeSpec) : _root_.Go.OpenSpec := { _root_.Go.OpenSpec.ofChange s with cond := some uptoSmall }

/-- 'weepholelaw01.LitChecks', WHERE WHAT IT READS IS OF BULK AT MOST 1048576: true; the input reads as it did. -/
def litChecksUptoRow : OpenClaim := { program := "ytiddnahipdlgkaa", sum := "8ef2dd40334a7c56eb708de2709ab8a377a14df5622c5b87444877d5a07ad0ea", func := "weephole/weepholelaw01.LitChecks", spec := "litChecks", unfollowed := true, recurses := true, apart := false, narrowed := true }
def LitChecksUptoSaid : Prop := litChecksUptoRow.holds Try.pinned (OpenSpec.upto litChecksSpec)

/-- 'weepholelaw01.LitNorms', WHERE WHAT IT READS IS OF BULK AT MOST 1048576: true; the input reads as it did. -/
def litNormsUptoRow : OpenClaim := { program := "ytiddnahipdlgkaa", sum := "8ef2dd40334a7c56eb708de2709ab8a377a14df5622c5b87444877d5a07ad0ea", func := "weephole/weepholelaw01.LitNorms", spec := "litNorms", unfollowed := true, recurses := true, apart := false, narrowed := true }
def LitNormsUptoSaid : Prop := litNormsUptoRow.holds Try.pinned (OpenSpec.upto litNormsSpec)

/-- 'weepholelaw01.LitHolds', WHERE WHAT IT READS IS OF BULK AT MOST 1048576: true; the input reads as it did. -/
def litHoldsUptoRow : OpenClaim := { program := "ytiddnahipdlgkaa", sum := "8ef2dd40334a7c56eb708de2709ab8a377a14df5622c5b87444877d5a07ad0ea", func := "weephole/weepholelaw01.LitHolds", spec := "litHolds", unfollowed := true, recurses := true, apart := false, narrowed := true }
def LitHoldsUptoSaid : Prop := litHoldsUptoRow.holds Try.pinned (OpenSpec.upto litHoldsSpec)

/-- 'weepholelaw01.LitNames', WHERE WHAT IT READS IS OF BULK AT MOST 1048576: true; the input reads as it did. -/
def litNamesUptoRow : OpenClaim := { program := "ytiddnahipdlgkaa", sum := "8ef2dd40334a7c56eb708de2709ab8a377a14df5622c5b87444877d5a07ad0ea", func := "weephole/weepholelaw01.LitNames", spec := "litNames", unfollowed := true, recurses := true, apart := false, narrowed := true }
def LitNamesUptoSaid : Prop := litNamesUptoRow.holds Try.pinned (OpenSpec.upto litNamesSpec)

/-- 'weepholelaw01.LitNormal', WHERE WHAT IT READS IS OF BULK AT MOST 1048576: true; the input reads as it did. -/
def litNormalUptoRow : OpenClaim := { program := "ytiddnahipdlgkaa", sum := "8ef2dd40334a7c56eb708de2709ab8a377a14df5622c5b87444877d5a07ad0ea", func := "weephole/weepholelaw01.LitNormal", spec := "litNormal", unfollowed := true, recurses := true, apart := false, narrowed := true }
def LitNormalUptoSaid : Prop := litNormalUptoRow.holds Try.pinned (OpenSpec.upto litNormalSpec)

/-- 'weepholelaw01.LitMeans', WHERE WHAT IT READS IS OF BULK AT MOST 1048576: true; the input reads as it did. -/
def litMeansUptoRow : OpenClaim := { program := "ytiddnahipdlgkaa", sum := "8ef2dd40334a7c56eb708de2709ab8a377a14df5622c5b87444877d5a07ad0ea", func := "weephole/weepholelaw01.LitMeans", spec := "litMeans", unfollowed := true, recurses := true, apart := false, narrowed := true }
def LitMeansUptoSaid : Prop := litMeansUptoRow.holds Try.pinned (OpenSpec.upto litMeansSpec)

/-- 'weepholelaw01.LitOpposites', WHERE WHAT IT READS IS OF BULK AT MOST 1048576: true; the input reads as it did. -/
def litOppositesUptoRow : OpenClaim := { program := "ytiddnahipdlgkaa", sum := "8ef2dd40334a7c56eb708de2709ab8a377a14df5622c5b87444877d5a07ad0ea", func := "weephole/weepholelaw01.LitOpposites", spec := "litOpposites", unfollowed := true, recurses := true, apart := false, narrowed := true }
def LitOppositesUptoSaid : Prop := litOppositesUptoRow.holds Try.pinned (OpenSpec.upto litOppositesSpec)

/-- 'weepholelaw01.LitOrder', WHERE WHAT IT READS IS OF BULK AT MOST 1048576: true; the input reads as it did. -/
def litOrderUptoRow : OpenClaim := { program := "ytiddnahipdlgkaa", sum := "8ef2dd40334a7c56eb708de2709ab8a377a14df5622c5b87444877d5a07ad0ea", func := "weephole/weepholelaw01.LitOrder", spec := "litOrder", unfollowed := true, recurses := true, apart := false, narrowed := true }
def LitOrderUptoSaid : Prop := litOrderUptoRow.holds Try.pinned (OpenSpec.upto litOrderSpec)

/-- 'weepholelaw01.LitWeaker', WHERE WHAT IT READS IS OF BULK AT MOST 1048576: true; the input reads as it did. -/
def litWeakerUptoRow : OpenClaim := { program := "ytiddnahipdlgkaa", sum := "8ef2dd40334a7c56eb708de2709ab8a377a14df5622c5b87444877d5a07ad0ea", func := "weephole/weepholelaw01.LitWeaker", spec := "litWeaker", unfollowed := true, recurses := true, apart := false, narrowed := true }
def LitWeakerUptoSaid : Prop := litWeakerUptoRow.holds Try.pinned (OpenSpec.upto litWeakerSpec)

end Rows
end Go.Proofs.Ytiddnahipdlgkaa
