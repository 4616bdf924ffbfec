/-
  DERIVED. GIVEN WITH THE SEED: THE CARDS: each row of YtckhjhgddnjfpaaDoorRows.lean that lists a variable, with what it lists TIED to the program's text (the seventh form; the later family's looks); each row that meets fmt, with fmt's text TOLD by the authors' own Lean function (tested against real Go, not proved from fmt's source: count such statements apart). THE CARD IS WHAT COUNTS. Prove the row's statement (the work); the ties are given (YtckhjhgddnjfpaaDoorTie.lean); close each card by the builder's one call (the guide's Derived/Test/ToyasCard.lean, 'card_holds'). Laid BY PROGRAM, IN A SANDBOX (cutbox-door.mjs). By AI agents, Wed Nov 11 2026. No macro, syntax, notation, axiom, sorry.
-/
import Derived.Test.YtckhjhgddnjfpaaDoorRows
import GoSem.ClaimSeven
namespace Go.Proofs.YtckhjhgddnjfpaaDoor
namespace Rows

/-- THE TIED CARD OF 'ambrylaw10.HeadReads'. -/
def headReadsCard : Claim7 := { stood := { row := headReadsRow, standIns := [], harness := (true, "22ab283256c00056607dc96c32bfceac52ef7e3b092909babe38047b41f89f71"), looks := false }, kinds := [], alts := [], laidByText := true, laidKinds := [.data, .pinned], laidTests := true, laidLooks := .later }
def HeadReadsCardSaid : Prop := Claim7.holds Tryd.pinned (.plain (OpenSpec.ofChange headReadsSpec)) headReadsCard

/-- THE TIED CARD OF 'ambrylaw10.HeadWords'. -/
def headWordsCard : Claim7 := { stood := { row := headWordsRow, standIns := [], harness := (true, "22ab283256c00056607dc96c32bfceac52ef7e3b092909babe38047b41f89f71"), looks := false }, kinds := [], alts := [], laidByText := true, laidKinds := [.data, .pinned], laidTests := true, laidLooks := .later }
def HeadWordsCardSaid : Prop := Claim7.holds Tryd.pinned (.plain (OpenSpec.ofChange headWordsSpec)) headWordsCard

/-- THE TIED CARD OF 'ambrylaw10.HeadAsks'. -/
def headAsksCard : Claim7 := { stood := { row := headAsksRow, standIns := [], harness := (true, "22ab283256c00056607dc96c32bfceac52ef7e3b092909babe38047b41f89f71"), looks := false }, kinds := [], alts := [], laidByText := true, laidKinds := [.data, .pinned], laidTests := true, laidLooks := .later }
def HeadAsksCardSaid : Prop := Claim7.holds Tryd.pinned (.plain (OpenSpec.ofChange headAsksSpec)) headAsksCard

/-- THE TIED CARD OF 'ambrylaw10.HeadHops'. -/
def headHopsCard : Claim7 := { stood := { row := headHopsRow, standIns := [], harness := (true, "22ab283256c00056607dc96c32bfceac52ef7e3b092909babe38047b41f89f71"), looks := false }, kinds := [], alts := [], laidByText := true, laidKinds := [.data, .pinned], laidTests := true, laidLooks := .later }
def HeadHopsCardSaid : Prop := Claim7.holds Tryd.pinned (.plain (OpenSpec.ofChange headHopsSpec)) headHopsCard

/-- THE TIED CARD OF 'ambrylaw10.HeadBack'. -/
def headBackCard : Claim7 := { stood := { row := headBackRow, standIns := [], harness := (true, "22ab283256c00056607dc96c32bfceac52ef7e3b092909babe38047b41f89f71"), looks := false }, kinds := [], alts := [], laidByText := true, laidKinds := [.data, .pinned], laidTests := true, laidLooks := .later }
def HeadBackCardSaid : Prop := Claim7.holds Tryd.pinned (.plain (OpenSpec.ofChange headBackSpec)) headBackCard

/-- THE TIED CARD OF 'ambrylaw10.HeadLists'. -/
def headListsCard : Claim7 := { stood := { row := headListsRow, standIns := [], harness := (true, "22ab283256c00056607dc96c32bfceac52ef7e3b092909babe38047b41f89f71"), looks := false }, kinds := [], alts := [], laidByText := true, laidKinds := [.data, .pinned], laidTests := true, laidLooks := .later }
def HeadListsCardSaid : Prop := Claim7.holds Tryd.pinned (.plain (OpenSpec.ofChange headListsSpec)) headListsCard

/-- THE TIED CARD OF 'ambrylaw10.HeadSets'. -/
def headSetsCard : Claim7 := { stood := { row := headSetsRow, standIns := [], harness := (true, "22ab283256c00056607dc96c32bfceac52ef7e3b092909babe38047b41f89f71"), looks := false }, kinds := [], alts := [], laidByText := true, laidKinds := [.data, .pinned], laidTests := true, laidLooks := .later }
def HeadSetsCardSaid : Prop := Claim7.holds Tryd.pinned (.plain (OpenSpec.ofChange headSetsSpec)) headSetsCard

/-- THE TIED CARD OF 'ambrylaw10.HeadBytes'. -/
def headBytesCard : Claim7 := { stood := { row := headBytesRow, standIns := [], harness := (true, "22ab283256c00056607dc96c32bfceac52ef7e3b092909babe38047b41f89f71"), looks := false }, kinds := [], alts := [], laidByText := true, laidKinds := [.data, .pinned], laidTests := true, laidLooks := .later }
def HeadBytesCardSaid : Prop := Claim7.holds Tryd.pinned (.plain (OpenSpec.ofChange headBytesSpec)) headBytesCard

/-- THE SECOND FORM's CARD OF 'ambrylaw10.HeadReads'. -/
def headReadsUptoCard : Claim7 := { stood := { row := headReadsUptoRow, standIns := [], harness := (true, "22ab283256c00056607dc96c32bfceac52ef7e3b092909babe38047b41f89f71"), looks := false }, kinds := [], alts := [], laidByText := true, laidKinds := [.data, .pinned], laidTests := true, laidLooks := .later }
def HeadReadsUptoCardSaid : Prop := Claim7.holds Tryd.pinned (.plain (OpenSpec.upto headReadsSpec)) headReadsUptoCard

/-- THE SECOND FORM's CARD OF 'ambrylaw10.HeadWords'. -/
def headWordsUptoCard : Claim7 := { stood := { row := headWordsUptoRow, standIns := [], harness := (true, "22ab283256c00056607dc96c32bfceac52ef7e3b092909babe38047b41f89f71"), looks := false }, kinds := [], alts := [], laidByText := true, laidKinds := [.data, .pinned], laidTests := true, laidLooks := .later }
def HeadWordsUptoCardSaid : Prop := Claim7.holds Tryd.pinned (.plain (OpenSpec.upto headWordsSpec)) headWordsUptoCard

/-- THE SECOND FORM's CARD OF 'ambrylaw10.HeadAsks'. -/
def headAsksUptoCard : Claim7 := { stood := { row := headAsksUptoRow, standIns := [], harness := (true, "22ab283256c00056607dc96c32bfceac52ef7e3b092909babe38047b41f89f71"), looks := false }, kinds := [], alts := [], laidByText := true, laidKinds := [.data, .pinned], laidTests := true, laidLooks := .later }
def HeadAsksUptoCardSaid : Prop := Claim7.holds Tryd.pinned (.plain (OpenSpec.upto headAsksSpec)) headAsksUptoCard

/-- THE SECOND FORM's CARD OF 'ambrylaw10.HeadHops'. -/
def headHopsUptoCard : Claim7 := { stood := { row := headHopsUptoRow, standIns := [], harness := (true, "22ab283256c00056607dc96c32bfceac52ef7e3b092909babe38047b41f89f71"), looks := false }, kinds := [], alts := [], laidByText := true, laidKinds := [.data, .pinned], laidTests := true, laidLooks := .later }
def HeadHopsUptoCardSaid : Prop := Claim7.holds Tryd.pinned (.plain (OpenSpec.upto headHopsSpec)) headHopsUptoCard

/-- THE SECOND FORM's CARD OF 'ambrylaw10.HeadBack'. -/
def headBackUptoCard : Claim7 := { stood := { row := headBackUptoRow, standIns := [], harness := (true, "22ab283256c00056607dc96c32bfceac52ef7e3b092909babe38047b41f89f71"), looks := false }, kinds := [], alts := [], laidByText := true, laidKinds := [.data, .pinned], laidTests := true, laidLooks := .later }
def HeadBackUptoCardSaid : Prop := Claim7.holds Tryd.pinned (.plain (OpenSpec.upto headBackSpec)) headBackUptoCard

/-- THE SECOND FORM's CARD OF 'ambrylaw10.HeadLists'. -/
def headListsUptoCard : Claim7 := { stood := { row := headListsUptoRow, standIns := [], harness := (true, "22ab283256c00056607dc96c32bfceac52ef7e3b092909babe38047b41f89f71"), looks := false }, kinds := [], alts := [], laidByText := true, laidKinds := [.data, .pinned], laidTests := true, laidLooks := .later }
def HeadListsUptoCardSaid : Prop := Claim7.holds Tryd.pinned (.plain (OpenSpec.upto headListsSpec)) headListsUptoCard

/-- THE SECOND FORM's CARD OF 'ambrylaw10.HeadSets'. -/
def headSetsUptoCard : Claim7 := { stood := { row := headSetsUptoRow, standIns := [], harness := (true, "22ab283256c00056607dc96c32bfceac52ef7e3b092909babe38047b41f89f71"), looks := false }, kinds := [], alts := [], laidByText := true, laidKinds := [.data, .pinned], laidTests := true, laidLooks := .later }
def HeadSetsUptoCardSaid : Prop := Claim7.holds Tryd.pinned (.plain (OpenSpec.upto headSetsSpec)) headSetsUptoCard

/-- THE SECOND FORM's CARD OF 'ambrylaw10.HeadBytes'. -/
def headBytesUptoCard : Claim7 := { stood := { row := headBytesUptoRow, standIns := [], harness := (true, "22ab283256c00056607dc96c32bfceac52ef7e3b092909babe38047b41f89f71"), looks := false }, kinds := [], alts := [], laidByText := true, laidKinds := [.data, .pinned], laidTests := true, laidLooks := .later }
def HeadBytesUptoCardSaid : Prop := Claim7.holds Tryd.pinned (.plain (OpenSpec.upto headBytesSpec)) headBytesUptoCard
end Rows
end Go.Proofs.YtckhjhgddnjfpaaDoor
