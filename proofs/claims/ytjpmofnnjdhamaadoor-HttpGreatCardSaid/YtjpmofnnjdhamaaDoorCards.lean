/-
  DERIVED. GIVEN WITH THE SEED: THE CARDS: each row of YtjpmofnnjdhamaaDoorRows.lean that lists a variable, with what it lists TIED to the program's text (the seventh form; the later family's looks); each row that meets fmt, with fmt's text TOLD by the authors' own Lean function (tested against real Go, not proved from fmt's source: count such statements apart). THE CARD IS WHAT COUNTS. Prove the row's statement (the work); the ties are given (YtjpmofnnjdhamaaDoorTie.lean); close each card by the builder's one call (the guide's Derived/Test/ToyasCard.lean, 'card_holds'). Laid BY PROGRAM, IN A SANDBOX (cutbox-door.mjs). By AI agents, Wed Nov 11 2026. No macro, syntax, notation, axiom, sorry.
-/
import Derived.Test.YtjpmofnnjdhamaaDoorRows
import GoSem.ClaimSeven
namespace Go.Proofs.YtjpmofnnjdhamaaDoor
namespace Rows

/-- THE TIED CARD OF 'ambrylaw12.HttpGreat'. -/
def httpGreatCard : Claim7 := { stood := { row := httpGreatRow, standIns := [], harness := (true, "4c74a36937b5855c9de951e95a64eda2ed36875422b228955f48beb17b5e3baa"), looks := true }, kinds := [], alts := [], laidByText := true, laidKinds := [.data, .pinned], laidTests := true, laidLooks := .later }
def HttpGreatCardSaid : Prop := Claim7.holds Tryd.pinned (.plain (OpenSpec.ofChange httpGreatSpec)) httpGreatCard

/-- THE TIED CARD OF 'ambrylaw12.HttpStatus'. -/
def httpStatusCard : Claim7 := { stood := { row := httpStatusRow, standIns := [], harness := (true, "4c74a36937b5855c9de951e95a64eda2ed36875422b228955f48beb17b5e3baa"), looks := true }, kinds := [], alts := [], laidByText := true, laidKinds := [.data, .pinned], laidTests := true, laidLooks := .later }
def HttpStatusCardSaid : Prop := Claim7.holds Tryd.pinned (.plain (OpenSpec.ofChange httpStatusSpec)) httpStatusCard

/-- THE TIED CARD OF 'ambrylaw12.HttpMany'. -/
def httpManyCard : Claim7 := { stood := { row := httpManyRow, standIns := [], harness := (true, "4c74a36937b5855c9de951e95a64eda2ed36875422b228955f48beb17b5e3baa"), looks := true }, kinds := [], alts := [], laidByText := true, laidKinds := [.data, .pinned], laidTests := true, laidLooks := .later }
def HttpManyCardSaid : Prop := Claim7.holds Tryd.pinned (.plain (OpenSpec.ofChange httpManySpec)) httpManyCard

/-- THE SECOND FORM's CARD OF 'ambrylaw12.HttpGreat'. -/
def httpGreatUptoCard : Claim7 := { stood := { row := httpGreatUptoRow, standIns := [], harness := (true, "4c74a36937b5855c9de951e95a64eda2ed36875422b228955f48beb17b5e3baa"), looks := true }, kinds := [], alts := [], laidByText := true, laidKinds := [.data, .pinned], laidTests := true, laidLooks := .later }
def HttpGreatUptoCardSaid : Prop := Claim7.holds Tryd.pinned (.plain (OpenSpec.upto httpGreatSpec)) httpGreatUptoCard

/-- THE SECOND FORM's CARD OF 'ambrylaw12.HttpStatus'. -/
def httpStatusUptoCard : Claim7 := { stood := { row := httpStatusUptoRow, standIns := [], harness := (true, "4c74a36937b5855c9de951e95a64eda2ed36875422b228955f48beb17b5e3baa"), looks := true }, kinds := [], alts := [], laidByText := true, laidKinds := [.data, .pinned], laidTests := true, laidLooks := .later }
def HttpStatusUptoCardSaid : Prop := Claim7.holds Tryd.pinned (.plain (OpenSpec.upto httpStatusSpec)) httpStatusUptoCard

/-- THE SECOND FORM's CARD OF 'ambrylaw12.HttpMany'. -/
def httpManyUptoCard : Claim7 := { stood := { row := httpManyUptoRow, standIns := [], harness := (true, "4c74a36937b5855c9de951e95a64eda2ed36875422b228955f48beb17b5e3baa"), looks := true }, kinds := [], alts := [], laidByText := true, laidKinds := [.data, .pinned], laidTests := true, laidLooks := .later }
def HttpManyUptoCardSaid : Prop := Claim7.holds Tryd.pinned (.plain (OpenSpec.upto httpManySpec)) httpManyUptoCard
end Rows
end Go.Proofs.YtjpmofnnjdhamaaDoor
