/-
  DERIVED. GIVEN WITH THE SEED: THE CARDS: each row of YtaimhfnddolilaaGreatDoorRows.lean that lists a variable, with what it lists TIED to the program's text (the seventh form; the later family's looks); each row that meets fmt, with fmt's text TOLD by the authors' own Lean function (tested against real Go, not proved from fmt's source: count such statements apart). THE CARD IS WHAT COUNTS. Prove the row's statement (the work); the ties are given (YtaimhfnddolilaaGreatDoorTie.lean); close each card by the builder's one call (the guide's Derived/Test/ToyasCard.lean, 'card_holds'). Laid BY PROGRAM, IN A SANDBOX (cutbox-door.mjs). By AI agents, Wed Nov 11 2026. No macro, syntax, notation, axiom, sorry.
-/
import Derived.Test.YtaimhfnddolilaaGreatDoorRows
import GoSem.ClaimSeven
namespace Go.Proofs.YtaimhfnddolilaaGreatDoor
namespace Rows

/-- THE TIED CARD OF 'ambrylaw14.FreshCounts'. -/
def freshCountsCard : Claim7 := { stood := { row := freshCountsRow, standIns := [], harness := (true, "35761b26ce2e2e1ea5b05088530cfd5f72dff08e7b446d4386624529d9d71bb1"), looks := false }, kinds := [], alts := [], laidByText := true, laidKinds := [.data, .data, .data, .data, .listed, .data, .pinned], laidTests := true, laidLooks := .later }
def FreshCountsCardSaid : Prop := Claim7.holds Tryz.pinned (.plain (OpenSpec.ofChange freshCountsSpec)) freshCountsCard

/-- THE TIED CARD OF 'ambrylaw14.FreshAges'. -/
def freshAgesCard : Claim7 := { stood := { row := freshAgesRow, standIns := [], harness := (true, "35761b26ce2e2e1ea5b05088530cfd5f72dff08e7b446d4386624529d9d71bb1"), looks := false }, kinds := [], alts := [], laidByText := true, laidKinds := [.data, .data, .data, .data, .listed, .data, .pinned], laidTests := true, laidLooks := .later }
def FreshAgesCardSaid : Prop := Claim7.holds Tryz.pinned (.plain (OpenSpec.ofChange freshAgesSpec)) freshAgesCard

/-- THE TIED CARD OF 'ambrylaw14.FreshStale'. -/
def freshStaleCard : Claim7 := { stood := { row := freshStaleRow, standIns := [], harness := (true, "35761b26ce2e2e1ea5b05088530cfd5f72dff08e7b446d4386624529d9d71bb1"), looks := false }, kinds := [], alts := [], laidByText := true, laidKinds := [.data, .data, .data, .data, .listed, .data, .pinned], laidTests := true, laidLooks := .later }
def FreshStaleCardSaid : Prop := Claim7.holds Tryz.pinned (.plain (OpenSpec.ofChange freshStaleSpec)) freshStaleCard

/-- THE TIED CARD OF 'ambrylaw14.FreshHeuristic'. -/
def freshHeuristicCard : Claim7 := { stood := { row := freshHeuristicRow, standIns := [], harness := (true, "35761b26ce2e2e1ea5b05088530cfd5f72dff08e7b446d4386624529d9d71bb1"), looks := false }, kinds := [], alts := [], laidByText := true, laidKinds := [.data, .data, .data, .data, .listed, .data, .pinned], laidTests := true, laidLooks := .later }
def FreshHeuristicCardSaid : Prop := Claim7.holds Tryz.pinned (.plain (OpenSpec.ofChange freshHeuristicSpec)) freshHeuristicCard

/-- THE TIED CARD OF 'ambrylaw14.FreshFirst'. -/
def freshFirstCard : Claim7 := { stood := { row := freshFirstRow, standIns := [], harness := (true, "35761b26ce2e2e1ea5b05088530cfd5f72dff08e7b446d4386624529d9d71bb1"), looks := false }, kinds := [], alts := [], laidByText := true, laidKinds := [.data, .data, .data, .data, .listed, .data, .pinned], laidTests := true, laidLooks := .later }
def FreshFirstCardSaid : Prop := Claim7.holds Tryz.pinned (.plain (OpenSpec.ofChange freshFirstSpec)) freshFirstCard

/-- THE SECOND FORM's CARD OF 'ambrylaw14.FreshCounts'. -/
def freshCountsUptoCard : Claim7 := { stood := { row := freshCountsUptoRow, standIns := [], harness := (true, "35761b26ce2e2e1ea5b05088530cfd5f72dff08e7b446d4386624529d9d71bb1"), looks := false }, kinds := [], alts := [], laidByText := true, laidKinds := [.data, .data, .data, .data, .listed, .data, .pinned], laidTests := true, laidLooks := .later }
def FreshCountsUptoCardSaid : Prop := Claim7.holds Tryz.pinned (.plain (OpenSpec.upto freshCountsSpec)) freshCountsUptoCard

/-- THE SECOND FORM's CARD OF 'ambrylaw14.FreshAges'. -/
def freshAgesUptoCard : Claim7 := { stood := { row := freshAgesUptoRow, standIns := [], harness := (true, "35761b26ce2e2e1ea5b05088530cfd5f72dff08e7b446d4386624529d9d71bb1"), looks := false }, kinds := [], alts := [], laidByText := true, laidKinds := [.data, .data, .data, .data, .listed, .data, .pinned], laidTests := true, laidLooks := .later }
def FreshAgesUptoCardSaid : Prop := Claim7.holds Tryz.pinned (.plain (OpenSpec.upto freshAgesSpec)) freshAgesUptoCard

/-- THE SECOND FORM's CARD OF 'ambrylaw14.FreshStale'. -/
def freshStaleUptoCard : Claim7 := { stood := { row := freshStaleUptoRow, standIns := [], harness := (true, "35761b26ce2e2e1ea5b05088530cfd5f72dff08e7b446d4386624529d9d71bb1"), looks := false }, kinds := [], alts := [], laidByText := true, laidKinds := [.data, .data, .data, .data, .listed, .data, .pinned], laidTests := true, laidLooks := .later }
def FreshStaleUptoCardSaid : Prop := Claim7.holds Tryz.pinned (.plain (OpenSpec.upto freshStaleSpec)) freshStaleUptoCard

/-- THE SECOND FORM's CARD OF 'ambrylaw14.FreshHeuristic'. -/
def freshHeuristicUptoCard : Claim7 := { stood := { row := freshHeuristicUptoRow, standIns := [], harness := (true, "35761b26ce2e2e1ea5b05088530cfd5f72dff08e7b446d4386624529d9d71bb1"), looks := false }, kinds := [], alts := [], laidByText := true, laidKinds := [.data, .data, .data, .data, .listed, .data, .pinned], laidTests := true, laidLooks := .later }
def FreshHeuristicUptoCardSaid : Prop := Claim7.holds Tryz.pinned (.plain (OpenSpec.upto freshHeuristicSpec)) freshHeuristicUptoCard

/-- THE SECOND FORM's CARD OF 'ambrylaw14.FreshFirst'. -/
def freshFirstUptoCard : Claim7 := { stood := { row := freshFirstUptoRow, standIns := [], harness := (true, "35761b26ce2e2e1ea5b05088530cfd5f72dff08e7b446d4386624529d9d71bb1"), looks := false }, kinds := [], alts := [], laidByText := true, laidKinds := [.data, .data, .data, .data, .listed, .data, .pinned], laidTests := true, laidLooks := .later }
def FreshFirstUptoCardSaid : Prop := Claim7.holds Tryz.pinned (.plain (OpenSpec.upto freshFirstSpec)) freshFirstUptoCard
end Rows
end Go.Proofs.YtaimhfnddolilaaGreatDoor
