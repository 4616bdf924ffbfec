/-
  DERIVED. GIVEN WITH THE SEED: THE CARDS: each row of YtjpmofnnjdhamaaGreatDoorRows.lean that lists a variable, with what it lists TIED to the program's text (the seventh form; the later family's looks); each row that meets fmt, with fmt's text TOLD by the authors' own Lean function (tested against real Go, not proved from fmt's source: count such statements apart). THE CARD IS WHAT COUNTS. Prove the row's statement (the work); the ties are given (YtjpmofnnjdhamaaGreatDoorTie.lean); close each card by the builder's one call (the guide's Derived/Test/ToyasCard.lean, 'card_holds'). Laid BY PROGRAM, IN A SANDBOX (cutbox-door.mjs). By AI agents, Wed Nov 11 2026. No macro, syntax, notation, axiom, sorry.
-/
import Derived.Test.YtjpmofnnjdhamaaGreatDoorRows
import GoSem.ClaimSeven
namespace Go.Proofs.YtjpmofnnjdhamaaGreatDoor
namespace Rows

/-- THE TIED CARD OF 'ambrylaw12.HttpWrites'. -/
def httpWritesCard : Claim7 := { stood := { row := httpWritesRow, standIns := [], harness := (true, "edc97ac9cbaa97cd3c243e2f8bf43130f164a4ba3968d31b1a7a0d2d112c45a0"), looks := true }, kinds := [], alts := [], laidByText := true, laidKinds := [.data, .data, .data, .data, .pinned], laidTests := true, laidLooks := .later }
def HttpWritesCardSaid : Prop := Claim7.holds Tryz.pinned (.plain (OpenSpec.ofChange httpWritesSpec)) httpWritesCard

/-- THE TIED CARD OF 'ambrylaw12.HttpBack'. -/
def httpBackCard : Claim7 := { stood := { row := httpBackRow, standIns := [], harness := (true, "edc97ac9cbaa97cd3c243e2f8bf43130f164a4ba3968d31b1a7a0d2d112c45a0"), looks := true }, kinds := [], alts := [], laidByText := true, laidKinds := [.data, .data, .data, .data, .pinned], laidTests := true, laidLooks := .later }
def HttpBackCardSaid : Prop := Claim7.holds Tryz.pinned (.plain (OpenSpec.ofChange httpBackSpec)) httpBackCard

/-- THE TIED CARD OF 'ambrylaw12.HttpFrames'. -/
def httpFramesCard : Claim7 := { stood := { row := httpFramesRow, standIns := [], harness := (true, "edc97ac9cbaa97cd3c243e2f8bf43130f164a4ba3968d31b1a7a0d2d112c45a0"), looks := true }, kinds := [], alts := [], laidByText := true, laidKinds := [.data, .pinned], laidTests := true, laidLooks := .later }
def HttpFramesCardSaid : Prop := Claim7.holds Tryz.pinned (.plain (OpenSpec.ofChange httpFramesSpec)) httpFramesCard

/-- THE TIED CARD OF 'ambrylaw12.HttpCuts'. -/
def httpCutsCard : Claim7 := { stood := { row := httpCutsRow, standIns := [], harness := (true, "edc97ac9cbaa97cd3c243e2f8bf43130f164a4ba3968d31b1a7a0d2d112c45a0"), looks := true }, kinds := [], alts := [], laidByText := true, laidKinds := [.data, .data, .data, .data, .pinned], laidTests := true, laidLooks := .later }
def HttpCutsCardSaid : Prop := Claim7.holds Tryz.pinned (.plain (OpenSpec.ofChange httpCutsSpec)) httpCutsCard

/-- THE TIED CARD OF 'ambrylaw12.HttpLines'. -/
def httpLinesCard : Claim7 := { stood := { row := httpLinesRow, standIns := [], harness := (true, "edc97ac9cbaa97cd3c243e2f8bf43130f164a4ba3968d31b1a7a0d2d112c45a0"), looks := true }, kinds := [], alts := [], laidByText := true, laidKinds := [.data, .pinned], laidTests := true, laidLooks := .later }
def HttpLinesCardSaid : Prop := Claim7.holds Tryz.pinned (.plain (OpenSpec.ofChange httpLinesSpec)) httpLinesCard

/-- THE TIED CARD OF 'ambrylaw12.HttpPipes'. -/
def httpPipesCard : Claim7 := { stood := { row := httpPipesRow, standIns := [], harness := (true, "edc97ac9cbaa97cd3c243e2f8bf43130f164a4ba3968d31b1a7a0d2d112c45a0"), looks := true }, kinds := [], alts := [], laidByText := true, laidKinds := [.data, .data, .data, .data, .pinned], laidTests := true, laidLooks := .later }
def HttpPipesCardSaid : Prop := Claim7.holds Tryz.pinned (.plain (OpenSpec.ofChange httpPipesSpec)) httpPipesCard

/-- THE SECOND FORM's CARD OF 'ambrylaw12.HttpWrites'. -/
def httpWritesUptoCard : Claim7 := { stood := { row := httpWritesUptoRow, standIns := [], harness := (true, "edc97ac9cbaa97cd3c243e2f8bf43130f164a4ba3968d31b1a7a0d2d112c45a0"), looks := true }, kinds := [], alts := [], laidByText := true, laidKinds := [.data, .data, .data, .data, .pinned], laidTests := true, laidLooks := .later }
def HttpWritesUptoCardSaid : Prop := Claim7.holds Tryz.pinned (.plain (OpenSpec.upto httpWritesSpec)) httpWritesUptoCard

/-- THE SECOND FORM's CARD OF 'ambrylaw12.HttpBack'. -/
def httpBackUptoCard : Claim7 := { stood := { row := httpBackUptoRow, standIns := [], harness := (true, "edc97ac9cbaa97cd3c243e2f8bf43130f164a4ba3968d31b1a7a0d2d112c45a0"), looks := true }, kinds := [], alts := [], laidByText := true, laidKinds := [.data, .data, .data, .data, .pinned], laidTests := true, laidLooks := .later }
def HttpBackUptoCardSaid : Prop := Claim7.holds Tryz.pinned (.plain (OpenSpec.upto httpBackSpec)) httpBackUptoCard

/-- THE SECOND FORM's CARD OF 'ambrylaw12.HttpFrames'. -/
def httpFramesUptoCard : Claim7 := { stood := { row := httpFramesUptoRow, standIns := [], harness := (true, "edc97ac9cbaa97cd3c243e2f8bf43130f164a4ba3968d31b1a7a0d2d112c45a0"), looks := true }, kinds := [], alts := [], laidByText := true, laidKinds := [.data, .pinned], laidTests := true, laidLooks := .later }
def HttpFramesUptoCardSaid : Prop := Claim7.holds Tryz.pinned (.plain (OpenSpec.upto httpFramesSpec)) httpFramesUptoCard

/-- THE SECOND FORM's CARD OF 'ambrylaw12.HttpCuts'. -/
def httpCutsUptoCard : Claim7 := { stood := { row := httpCutsUptoRow, standIns := [], harness := (true, "edc97ac9cbaa97cd3c243e2f8bf43130f164a4ba3968d31b1a7a0d2d112c45a0"), looks := true }, kinds := [], alts := [], laidByText := true, laidKinds := [.data, .data, .data, .data, .pinned], laidTests := true, laidLooks := .later }
def HttpCutsUptoCardSaid : Prop := Claim7.holds Tryz.pinned (.plain (OpenSpec.upto httpCutsSpec)) httpCutsUptoCard

/-- THE SECOND FORM's CARD OF 'ambrylaw12.HttpLines'. -/
def httpLinesUptoCard : Claim7 := { stood := { row := httpLinesUptoRow, standIns := [], harness := (true, "edc97ac9cbaa97cd3c243e2f8bf43130f164a4ba3968d31b1a7a0d2d112c45a0"), looks := true }, kinds := [], alts := [], laidByText := true, laidKinds := [.data, .pinned], laidTests := true, laidLooks := .later }
def HttpLinesUptoCardSaid : Prop := Claim7.holds Tryz.pinned (.plain (OpenSpec.upto httpLinesSpec)) httpLinesUptoCard

/-- THE SECOND FORM's CARD OF 'ambrylaw12.HttpPipes'. -/
def httpPipesUptoCard : Claim7 := { stood := { row := httpPipesUptoRow, standIns := [], harness := (true, "edc97ac9cbaa97cd3c243e2f8bf43130f164a4ba3968d31b1a7a0d2d112c45a0"), looks := true }, kinds := [], alts := [], laidByText := true, laidKinds := [.data, .data, .data, .data, .pinned], laidTests := true, laidLooks := .later }
def HttpPipesUptoCardSaid : Prop := Claim7.holds Tryz.pinned (.plain (OpenSpec.upto httpPipesSpec)) httpPipesUptoCard
end Rows
end Go.Proofs.YtjpmofnnjdhamaaGreatDoor
