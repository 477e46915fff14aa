/-
  DERIVED. GIVEN WITH THE SEED: THE CARDS: each row of YtnhcbnjibkfnnaaDoorRows.lean that lists a variable, with what it lists TIED to the program's text (the seventh form; the later family's looks); each row that meets fmt, with fmt's text TOLD by the authors' own Lean function (tested against real Go, not proved from fmt's source: count such statements apart). THE CARD IS WHAT COUNTS. Prove the row's statement (the work); the ties are given (YtnhcbnjibkfnnaaDoorTie.lean); close each card by the builder's one call (the guide's Derived/Test/ToyasCard.lean, 'card_holds'). Laid BY PROGRAM, IN A SANDBOX (cutbox-door.mjs). By AI agents, Wed Nov 11 2026. No macro, syntax, notation, axiom, sorry.
-/
import Derived.Test.YtnhcbnjibkfnnaaDoorRows
import GoSem.ClaimSeven
namespace Go.Proofs.YtnhcbnjibkfnnaaDoor
namespace Rows

/-- THE TIED CARD OF 'weepholelaw08.OpMatches'. -/
def opMatchesCard : Claim7 := { stood := { row := opMatchesRow, standIns := [], harness := (true, "5b34bb9894af92aaef2eceb20c45aadacd4b8bac6593bf033226f5d8b0af0ea5"), looks := false }, kinds := [], alts := [], laidByText := true, laidKinds := [.data], laidTests := true, laidLooks := .later }
def OpMatchesCardSaid : Prop := Claim7.holds Tryd.pinned (.plain (OpenSpec.ofChange opMatchesSpec)) opMatchesCard

/-- THE TIED CARD OF 'weepholelaw08.OpOfs'. -/
def opOfsCard : Claim7 := { stood := { row := opOfsRow, standIns := [], harness := (true, "5b34bb9894af92aaef2eceb20c45aadacd4b8bac6593bf033226f5d8b0af0ea5"), looks := false }, kinds := [], alts := [], laidByText := true, laidKinds := [.data], laidTests := true, laidLooks := .later }
def OpOfsCardSaid : Prop := Claim7.holds Tryd.pinned (.plain (OpenSpec.ofChange opOfsSpec)) opOfsCard

/-- THE TIED CARD OF 'weepholelaw08.OpNames'. -/
def opNamesCard : Claim7 := { stood := { row := opNamesRow, standIns := [], harness := (true, "5b34bb9894af92aaef2eceb20c45aadacd4b8bac6593bf033226f5d8b0af0ea5"), looks := false }, kinds := [], alts := [], laidByText := true, laidKinds := [.data], laidTests := true, laidLooks := .later }
def OpNamesCardSaid : Prop := Claim7.holds Tryd.pinned (.plain (OpenSpec.ofChange opNamesSpec)) opNamesCard

/-- THE TIED CARD OF 'weepholelaw08.OpInverse'. -/
def opInverseCard : Claim7 := { stood := { row := opInverseRow, standIns := [], harness := (true, "5b34bb9894af92aaef2eceb20c45aadacd4b8bac6593bf033226f5d8b0af0ea5"), looks := false }, kinds := [], alts := [], laidByText := true, laidKinds := [.data], laidTests := true, laidLooks := .later }
def OpInverseCardSaid : Prop := Claim7.holds Tryd.pinned (.plain (OpenSpec.ofChange opInverseSpec)) opInverseCard

/-- THE TIED CARD OF 'weepholelaw08.OpLetters'. -/
def opLettersCard : Claim7 := { stood := { row := opLettersRow, standIns := [], harness := (true, "5b34bb9894af92aaef2eceb20c45aadacd4b8bac6593bf033226f5d8b0af0ea5"), looks := false }, kinds := [], alts := [], laidByText := true, laidKinds := [.data], laidTests := true, laidLooks := .later }
def OpLettersCardSaid : Prop := Claim7.holds Tryd.pinned (.plain (OpenSpec.ofChange opLettersSpec)) opLettersCard

/-- THE TIED CARD OF 'weepholelaw08.OpCommuting'. -/
def opCommutingCard : Claim7 := { stood := { row := opCommutingRow, standIns := [], harness := (true, "5b34bb9894af92aaef2eceb20c45aadacd4b8bac6593bf033226f5d8b0af0ea5"), looks := false }, kinds := [], alts := [], laidByText := true, laidKinds := [.data], laidTests := true, laidLooks := .later }
def OpCommutingCardSaid : Prop := Claim7.holds Tryd.pinned (.plain (OpenSpec.ofChange opCommutingSpec)) opCommutingCard

/-- THE TIED CARD OF 'weepholelaw08.OpArities'. -/
def opAritiesCard : Claim7 := { stood := { row := opAritiesRow, standIns := [], harness := (true, "5b34bb9894af92aaef2eceb20c45aadacd4b8bac6593bf033226f5d8b0af0ea5"), looks := false }, kinds := [], alts := [], laidByText := true, laidKinds := [.data], laidTests := true, laidLooks := .later }
def OpAritiesCardSaid : Prop := Claim7.holds Tryd.pinned (.plain (OpenSpec.ofChange opAritiesSpec)) opAritiesCard

/-- THE SECOND FORM's CARD OF 'weepholelaw08.OpMatches'. -/
def opMatchesUptoCard : Claim7 := { stood := { row := opMatchesUptoRow, standIns := [], harness := (true, "5b34bb9894af92aaef2eceb20c45aadacd4b8bac6593bf033226f5d8b0af0ea5"), looks := false }, kinds := [], alts := [], laidByText := true, laidKinds := [.data], laidTests := true, laidLooks := .later }
def OpMatchesUptoCardSaid : Prop := Claim7.holds Tryd.pinned (.plain (OpenSpec.upto opMatchesSpec)) opMatchesUptoCard

/-- THE SECOND FORM's CARD OF 'weepholelaw08.OpOfs'. -/
def opOfsUptoCard : Claim7 := { stood := { row := opOfsUptoRow, standIns := [], harness := (true, "5b34bb9894af92aaef2eceb20c45aadacd4b8bac6593bf033226f5d8b0af0ea5"), looks := false }, kinds := [], alts := [], laidByText := true, laidKinds := [.data], laidTests := true, laidLooks := .later }
def OpOfsUptoCardSaid : Prop := Claim7.holds Tryd.pinned (.plain (OpenSpec.upto opOfsSpec)) opOfsUptoCard

/-- THE SECOND FORM's CARD OF 'weepholelaw08.OpNames'. -/
def opNamesUptoCard : Claim7 := { stood := { row := opNamesUptoRow, standIns := [], harness := (true, "5b34bb9894af92aaef2eceb20c45aadacd4b8bac6593bf033226f5d8b0af0ea5"), looks := false }, kinds := [], alts := [], laidByText := true, laidKinds := [.data], laidTests := true, laidLooks := .later }
def OpNamesUptoCardSaid : Prop := Claim7.holds Tryd.pinned (.plain (OpenSpec.upto opNamesSpec)) opNamesUptoCard

/-- THE SECOND FORM's CARD OF 'weepholelaw08.OpInverse'. -/
def opInverseUptoCard : Claim7 := { stood := { row := opInverseUptoRow, standIns := [], harness := (true, "5b34bb9894af92aaef2eceb20c45aadacd4b8bac6593bf033226f5d8b0af0ea5"), looks := false }, kinds := [], alts := [], laidByText := true, laidKinds := [.data], laidTests := true, laidLooks := .later }
def OpInverseUptoCardSaid : Prop := Claim7.holds Tryd.pinned (.plain (OpenSpec.upto opInverseSpec)) opInverseUptoCard

/-- THE SECOND FORM's CARD OF 'weepholelaw08.OpLetters'. -/
def opLettersUptoCard : Claim7 := { stood := { row := opLettersUptoRow, standIns := [], harness := (true, "5b34bb9894af92aaef2eceb20c45aadacd4b8bac6593bf033226f5d8b0af0ea5"), looks := false }, kinds := [], alts := [], laidByText := true, laidKinds := [.data], laidTests := true, laidLooks := .later }
def OpLettersUptoCardSaid : Prop := Claim7.holds Tryd.pinned (.plain (OpenSpec.upto opLettersSpec)) opLettersUptoCard

/-- THE SECOND FORM's CARD OF 'weepholelaw08.OpCommuting'. -/
def opCommutingUptoCard : Claim7 := { stood := { row := opCommutingUptoRow, standIns := [], harness := (true, "5b34bb9894af92aaef2eceb20c45aadacd4b8bac6593bf033226f5d8b0af0ea5"), looks := false }, kinds := [], alts := [], laidByText := true, laidKinds := [.data], laidTests := true, laidLooks := .later }
def OpCommutingUptoCardSaid : Prop := Claim7.holds Tryd.pinned (.plain (OpenSpec.upto opCommutingSpec)) opCommutingUptoCard

/-- THE SECOND FORM's CARD OF 'weepholelaw08.OpArities'. -/
def opAritiesUptoCard : Claim7 := { stood := { row := opAritiesUptoRow, standIns := [], harness := (true, "5b34bb9894af92aaef2eceb20c45aadacd4b8bac6593bf033226f5d8b0af0ea5"), looks := false }, kinds := [], alts := [], laidByText := true, laidKinds := [.data], laidTests := true, laidLooks := .later }
def OpAritiesUptoCardSaid : Prop := Claim7.holds Tryd.pinned (.plain (OpenSpec.upto opAritiesSpec)) opAritiesUptoCard
end Rows
end Go.Proofs.YtnhcbnjibkfnnaaDoor
