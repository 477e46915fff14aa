/-
  DERIVED. GIVEN WITH THE SEED: THE CARDS: each row of YtldcekejbnhloaaDoorRows.lean that lists a variable, with what it lists TIED to the program's text (the seventh form; the later family's looks); each row that meets fmt, with fmt's text TOLD by the authors' own Lean function (tested against real Go, not proved from fmt's source: count such statements apart). THE CARD IS WHAT COUNTS. Prove the row's statement (the work); the ties are given (YtldcekejbnhloaaDoorTie.lean); close each card by the builder's one call (the guide's Derived/Test/ToyasCard.lean, 'card_holds'). Laid BY PROGRAM, IN A SANDBOX (cutbox-door.mjs). By AI agents, Wed Nov 11 2026. No macro, syntax, notation, axiom, sorry.
-/
import Derived.Test.YtldcekejbnhloaaDoorRows
import GoSem.ClaimSeven
namespace Go.Proofs.YtldcekejbnhloaaDoor
namespace Rows

/-- THE TIED CARD OF 'weepholelaw09.WordApplies'. -/
def wordAppliesCard : Claim7 := { stood := { row := wordAppliesRow, standIns := [], harness := (true, "03e1ef830e51458573cc9c6589b8cd6d94df31aa49643f0396947d94ed1107e2"), looks := false }, kinds := [], alts := [], laidByText := true, laidKinds := [.data], laidTests := true, laidLooks := .later }
def WordAppliesCardSaid : Prop := Claim7.holds Tryd.pinned (.plain (OpenSpec.ofChange wordAppliesSpec)) wordAppliesCard

/-- THE TIED CARD OF 'weepholelaw09.WordAll'. -/
def wordAllCard : Claim7 := { stood := { row := wordAllRow, standIns := [], harness := (true, "03e1ef830e51458573cc9c6589b8cd6d94df31aa49643f0396947d94ed1107e2"), looks := false }, kinds := [], alts := [], laidByText := true, laidKinds := [.data], laidTests := true, laidLooks := .later }
def WordAllCardSaid : Prop := Claim7.holds Tryd.pinned (.plain (OpenSpec.ofChange wordAllSpec)) wordAllCard

/-- THE TIED CARD OF 'weepholelaw09.WordTrims'. -/
def wordTrimsCard : Claim7 := { stood := { row := wordTrimsRow, standIns := [], harness := (true, "03e1ef830e51458573cc9c6589b8cd6d94df31aa49643f0396947d94ed1107e2"), looks := false }, kinds := [], alts := [], laidByText := true, laidKinds := [.data], laidTests := true, laidLooks := .later }
def WordTrimsCardSaid : Prop := Claim7.holds Tryd.pinned (.plain (OpenSpec.ofChange wordTrimsSpec)) wordTrimsCard

/-- THE TIED CARD OF 'weepholelaw09.WordNames'. -/
def wordNamesCard : Claim7 := { stood := { row := wordNamesRow, standIns := [], harness := (true, "03e1ef830e51458573cc9c6589b8cd6d94df31aa49643f0396947d94ed1107e2"), looks := false }, kinds := [], alts := [], laidByText := true, laidKinds := [.data], laidTests := true, laidLooks := .later }
def WordNamesCardSaid : Prop := Claim7.holds Tryd.pinned (.plain (OpenSpec.ofChange wordNamesSpec)) wordNamesCard

/-- THE TIED CARD OF 'weepholelaw09.WordRing'. -/
def wordRingCard : Claim7 := { stood := { row := wordRingRow, standIns := [], harness := (true, "03e1ef830e51458573cc9c6589b8cd6d94df31aa49643f0396947d94ed1107e2"), looks := false }, kinds := [], alts := [], laidByText := true, laidKinds := [.data], laidTests := true, laidLooks := .later }
def WordRingCardSaid : Prop := Claim7.holds Tryd.pinned (.plain (OpenSpec.ofChange wordRingSpec)) wordRingCard

/-- THE TIED CARD OF 'weepholelaw09.WordNegs'. -/
def wordNegsCard : Claim7 := { stood := { row := wordNegsRow, standIns := [], harness := (true, "03e1ef830e51458573cc9c6589b8cd6d94df31aa49643f0396947d94ed1107e2"), looks := false }, kinds := [], alts := [], laidByText := true, laidKinds := [.data], laidTests := true, laidLooks := .later }
def WordNegsCardSaid : Prop := Claim7.holds Tryd.pinned (.plain (OpenSpec.ofChange wordNegsSpec)) wordNegsCard

/-- THE TIED CARD OF 'weepholelaw09.WordCompares'. -/
def wordComparesCard : Claim7 := { stood := { row := wordComparesRow, standIns := [], harness := (true, "03e1ef830e51458573cc9c6589b8cd6d94df31aa49643f0396947d94ed1107e2"), looks := false }, kinds := [], alts := [], laidByText := true, laidKinds := [.data], laidTests := true, laidLooks := .later }
def WordComparesCardSaid : Prop := Claim7.holds Tryd.pinned (.plain (OpenSpec.ofChange wordComparesSpec)) wordComparesCard

/-- THE TIED CARD OF 'weepholelaw09.WordShifts'. -/
def wordShiftsCard : Claim7 := { stood := { row := wordShiftsRow, standIns := [], harness := (true, "03e1ef830e51458573cc9c6589b8cd6d94df31aa49643f0396947d94ed1107e2"), looks := false }, kinds := [], alts := [], laidByText := true, laidKinds := [.data], laidTests := true, laidLooks := .later }
def WordShiftsCardSaid : Prop := Claim7.holds Tryd.pinned (.plain (OpenSpec.ofChange wordShiftsSpec)) wordShiftsCard

/-- THE TIED CARD OF 'weepholelaw09.WordParts'. -/
def wordPartsCard : Claim7 := { stood := { row := wordPartsRow, standIns := [], harness := (true, "03e1ef830e51458573cc9c6589b8cd6d94df31aa49643f0396947d94ed1107e2"), looks := false }, kinds := [], alts := [], laidByText := true, laidKinds := [.data], laidTests := true, laidLooks := .later }
def WordPartsCardSaid : Prop := Claim7.holds Tryd.pinned (.plain (OpenSpec.ofChange wordPartsSpec)) wordPartsCard

/-- THE SECOND FORM's CARD OF 'weepholelaw09.WordApplies'. -/
def wordAppliesUptoCard : Claim7 := { stood := { row := wordAppliesUptoRow, standIns := [], harness := (true, "03e1ef830e51458573cc9c6589b8cd6d94df31aa49643f0396947d94ed1107e2"), looks := false }, kinds := [], alts := [], laidByText := true, laidKinds := [.data], laidTests := true, laidLooks := .later }
def WordAppliesUptoCardSaid : Prop := Claim7.holds Tryd.pinned (.plain (OpenSpec.upto wordAppliesSpec)) wordAppliesUptoCard

/-- THE SECOND FORM's CARD OF 'weepholelaw09.WordAll'. -/
def wordAllUptoCard : Claim7 := { stood := { row := wordAllUptoRow, standIns := [], harness := (true, "03e1ef830e51458573cc9c6589b8cd6d94df31aa49643f0396947d94ed1107e2"), looks := false }, kinds := [], alts := [], laidByText := true, laidKinds := [.data], laidTests := true, laidLooks := .later }
def WordAllUptoCardSaid : Prop := Claim7.holds Tryd.pinned (.plain (OpenSpec.upto wordAllSpec)) wordAllUptoCard

/-- THE SECOND FORM's CARD OF 'weepholelaw09.WordTrims'. -/
def wordTrimsUptoCard : Claim7 := { stood := { row := wordTrimsUptoRow, standIns := [], harness := (true, "03e1ef830e51458573cc9c6589b8cd6d94df31aa49643f0396947d94ed1107e2"), looks := false }, kinds := [], alts := [], laidByText := true, laidKinds := [.data], laidTests := true, laidLooks := .later }
def WordTrimsUptoCardSaid : Prop := Claim7.holds Tryd.pinned (.plain (OpenSpec.upto wordTrimsSpec)) wordTrimsUptoCard

/-- THE SECOND FORM's CARD OF 'weepholelaw09.WordNames'. -/
def wordNamesUptoCard : Claim7 := { stood := { row := wordNamesUptoRow, standIns := [], harness := (true, "03e1ef830e51458573cc9c6589b8cd6d94df31aa49643f0396947d94ed1107e2"), looks := false }, kinds := [], alts := [], laidByText := true, laidKinds := [.data], laidTests := true, laidLooks := .later }
def WordNamesUptoCardSaid : Prop := Claim7.holds Tryd.pinned (.plain (OpenSpec.upto wordNamesSpec)) wordNamesUptoCard

/-- THE SECOND FORM's CARD OF 'weepholelaw09.WordRing'. -/
def wordRingUptoCard : Claim7 := { stood := { row := wordRingUptoRow, standIns := [], harness := (true, "03e1ef830e51458573cc9c6589b8cd6d94df31aa49643f0396947d94ed1107e2"), looks := false }, kinds := [], alts := [], laidByText := true, laidKinds := [.data], laidTests := true, laidLooks := .later }
def WordRingUptoCardSaid : Prop := Claim7.holds Tryd.pinned (.plain (OpenSpec.upto wordRingSpec)) wordRingUptoCard

/-- THE SECOND FORM's CARD OF 'weepholelaw09.WordNegs'. -/
def wordNegsUptoCard : Claim7 := { stood := { row := wordNegsUptoRow, standIns := [], harness := (true, "03e1ef830e51458573cc9c6589b8cd6d94df31aa49643f0396947d94ed1107e2"), looks := false }, kinds := [], alts := [], laidByText := true, laidKinds := [.data], laidTests := true, laidLooks := .later }
def WordNegsUptoCardSaid : Prop := Claim7.holds Tryd.pinned (.plain (OpenSpec.upto wordNegsSpec)) wordNegsUptoCard

/-- THE SECOND FORM's CARD OF 'weepholelaw09.WordCompares'. -/
def wordComparesUptoCard : Claim7 := { stood := { row := wordComparesUptoRow, standIns := [], harness := (true, "03e1ef830e51458573cc9c6589b8cd6d94df31aa49643f0396947d94ed1107e2"), looks := false }, kinds := [], alts := [], laidByText := true, laidKinds := [.data], laidTests := true, laidLooks := .later }
def WordComparesUptoCardSaid : Prop := Claim7.holds Tryd.pinned (.plain (OpenSpec.upto wordComparesSpec)) wordComparesUptoCard

/-- THE SECOND FORM's CARD OF 'weepholelaw09.WordShifts'. -/
def wordShiftsUptoCard : Claim7 := { stood := { row := wordShiftsUptoRow, standIns := [], harness := (true, "03e1ef830e51458573cc9c6589b8cd6d94df31aa49643f0396947d94ed1107e2"), looks := false }, kinds := [], alts := [], laidByText := true, laidKinds := [.data], laidTests := true, laidLooks := .later }
def WordShiftsUptoCardSaid : Prop := Claim7.holds Tryd.pinned (.plain (OpenSpec.upto wordShiftsSpec)) wordShiftsUptoCard

/-- THE SECOND FORM's CARD OF 'weepholelaw09.WordParts'. -/
def wordPartsUptoCard : Claim7 := { stood := { row := wordPartsUptoRow, standIns := [], harness := (true, "03e1ef830e51458573cc9c6589b8cd6d94df31aa49643f0396947d94ed1107e2"), looks := false }, kinds := [], alts := [], laidByText := true, laidKinds := [.data], laidTests := true, laidLooks := .later }
def WordPartsUptoCardSaid : Prop := Claim7.holds Tryd.pinned (.plain (OpenSpec.upto wordPartsSpec)) wordPartsUptoCard
end Rows
end Go.Proofs.YtldcekejbnhloaaDoor
