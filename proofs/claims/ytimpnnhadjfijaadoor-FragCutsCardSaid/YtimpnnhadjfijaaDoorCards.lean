/-
  DERIVED. GIVEN WITH THE SEED: THE CARDS: each row of YtimpnnhadjfijaaDoorRows.lean that lists a variable, with what it lists TIED to the program's text (the seventh form; the later family's looks); each row that meets fmt, with fmt's text TOLD by the authors' own Lean function (tested against real Go, not proved from fmt's source: count such statements apart). THE CARD IS WHAT COUNTS. Prove the row's statement (the work); the ties are given (YtimpnnhadjfijaaDoorTie.lean); close each card by the builder's one call (the guide's Derived/Test/ToyasCard.lean, 'card_holds'). Laid BY PROGRAM, IN A SANDBOX (cutbox-door.mjs). By AI agents, Wed Nov 11 2026. No macro, syntax, notation, axiom, sorry.
-/
import Derived.Test.YtimpnnhadjfijaaDoorRows
import GoSem.ClaimSeven
namespace Go.Proofs.YtimpnnhadjfijaaDoor
namespace Rows

/-- THE TIED CARD OF 'ambrylaw4.FragWrites'. -/
def fragWritesCard : Claim7 := { stood := { row := fragWritesRow, standIns := [], harness := (true, "77646ce5322c65961e1ead7cf586c854ab1aa790bb3ccd7a0efce975630164b9"), looks := false }, kinds := [], alts := [], laidByText := true, laidKinds := [.data], laidTests := true, laidLooks := .later }
def FragWritesCardSaid : Prop := Claim7.holds Tryd.pinned (.plain (OpenSpec.ofChange fragWritesSpec)) fragWritesCard

/-- THE TIED CARD OF 'ambrylaw4.FragReads'. -/
def fragReadsCard : Claim7 := { stood := { row := fragReadsRow, standIns := [], harness := (true, "77646ce5322c65961e1ead7cf586c854ab1aa790bb3ccd7a0efce975630164b9"), looks := false }, kinds := [], alts := [], laidByText := true, laidKinds := [.data], laidTests := true, laidLooks := .later }
def FragReadsCardSaid : Prop := Claim7.holds Tryd.pinned (.plain (OpenSpec.ofChange fragReadsSpec)) fragReadsCard

/-- THE TIED CARD OF 'ambrylaw4.FragEntries'. -/
def fragEntriesCard : Claim7 := { stood := { row := fragEntriesRow, standIns := [], harness := (true, "77646ce5322c65961e1ead7cf586c854ab1aa790bb3ccd7a0efce975630164b9"), looks := false }, kinds := [], alts := [], laidByText := true, laidKinds := [.data], laidTests := true, laidLooks := .later }
def FragEntriesCardSaid : Prop := Claim7.holds Tryd.pinned (.plain (OpenSpec.ofChange fragEntriesSpec)) fragEntriesCard

/-- THE TIED CARD OF 'ambrylaw4.FragSectors'. -/
def fragSectorsCard : Claim7 := { stood := { row := fragSectorsRow, standIns := [], harness := (true, "77646ce5322c65961e1ead7cf586c854ab1aa790bb3ccd7a0efce975630164b9"), looks := false }, kinds := [], alts := [], laidByText := true, laidKinds := [.data], laidTests := true, laidLooks := .later }
def FragSectorsCardSaid : Prop := Claim7.holds Tryd.pinned (.plain (OpenSpec.ofChange fragSectorsSpec)) fragSectorsCard

/-- THE TIED CARD OF 'ambrylaw4.FragBits'. -/
def fragBitsCard : Claim7 := { stood := { row := fragBitsRow, standIns := [], harness := (true, "77646ce5322c65961e1ead7cf586c854ab1aa790bb3ccd7a0efce975630164b9"), looks := false }, kinds := [], alts := [], laidByText := true, laidKinds := [.data], laidTests := true, laidLooks := .later }
def FragBitsCardSaid : Prop := Claim7.holds Tryd.pinned (.plain (OpenSpec.ofChange fragBitsSpec)) fragBitsCard

/-- THE TIED CARD OF 'ambrylaw4.FragCuts'. -/
def fragCutsCard : Claim7 := { stood := { row := fragCutsRow, standIns := [], harness := (true, "77646ce5322c65961e1ead7cf586c854ab1aa790bb3ccd7a0efce975630164b9"), looks := false }, kinds := [], alts := [], laidByText := true, laidKinds := [.data], laidTests := true, laidLooks := .later }
def FragCutsCardSaid : Prop := Claim7.holds Tryd.pinned (.plain (OpenSpec.ofChange fragCutsSpec)) fragCutsCard

/-- THE SECOND FORM's CARD OF 'ambrylaw4.FragWrites'. -/
def fragWritesUptoCard : Claim7 := { stood := { row := fragWritesUptoRow, standIns := [], harness := (true, "77646ce5322c65961e1ead7cf586c854ab1aa790bb3ccd7a0efce975630164b9"), looks := false }, kinds := [], alts := [], laidByText := true, laidKinds := [.data], laidTests := true, laidLooks := .later }
def FragWritesUptoCardSaid : Prop := Claim7.holds Tryd.pinned (.plain (OpenSpec.upto fragWritesSpec)) fragWritesUptoCard

/-- THE SECOND FORM's CARD OF 'ambrylaw4.FragReads'. -/
def fragReadsUptoCard : Claim7 := { stood := { row := fragReadsUptoRow, standIns := [], harness := (true, "77646ce5322c65961e1ead7cf586c854ab1aa790bb3ccd7a0efce975630164b9"), looks := false }, kinds := [], alts := [], laidByText := true, laidKinds := [.data], laidTests := true, laidLooks := .later }
def FragReadsUptoCardSaid : Prop := Claim7.holds Tryd.pinned (.plain (OpenSpec.upto fragReadsSpec)) fragReadsUptoCard

/-- THE SECOND FORM's CARD OF 'ambrylaw4.FragEntries'. -/
def fragEntriesUptoCard : Claim7 := { stood := { row := fragEntriesUptoRow, standIns := [], harness := (true, "77646ce5322c65961e1ead7cf586c854ab1aa790bb3ccd7a0efce975630164b9"), looks := false }, kinds := [], alts := [], laidByText := true, laidKinds := [.data], laidTests := true, laidLooks := .later }
def FragEntriesUptoCardSaid : Prop := Claim7.holds Tryd.pinned (.plain (OpenSpec.upto fragEntriesSpec)) fragEntriesUptoCard

/-- THE SECOND FORM's CARD OF 'ambrylaw4.FragSectors'. -/
def fragSectorsUptoCard : Claim7 := { stood := { row := fragSectorsUptoRow, standIns := [], harness := (true, "77646ce5322c65961e1ead7cf586c854ab1aa790bb3ccd7a0efce975630164b9"), looks := false }, kinds := [], alts := [], laidByText := true, laidKinds := [.data], laidTests := true, laidLooks := .later }
def FragSectorsUptoCardSaid : Prop := Claim7.holds Tryd.pinned (.plain (OpenSpec.upto fragSectorsSpec)) fragSectorsUptoCard

/-- THE SECOND FORM's CARD OF 'ambrylaw4.FragBits'. -/
def fragBitsUptoCard : Claim7 := { stood := { row := fragBitsUptoRow, standIns := [], harness := (true, "77646ce5322c65961e1ead7cf586c854ab1aa790bb3ccd7a0efce975630164b9"), looks := false }, kinds := [], alts := [], laidByText := true, laidKinds := [.data], laidTests := true, laidLooks := .later }
def FragBitsUptoCardSaid : Prop := Claim7.holds Tryd.pinned (.plain (OpenSpec.upto fragBitsSpec)) fragBitsUptoCard

/-- THE SECOND FORM's CARD OF 'ambrylaw4.FragCuts'. -/
def fragCutsUptoCard : Claim7 := { stood := { row := fragCutsUptoRow, standIns := [], harness := (true, "77646ce5322c65961e1ead7cf586c854ab1aa790bb3ccd7a0efce975630164b9"), looks := false }, kinds := [], alts := [], laidByText := true, laidKinds := [.data], laidTests := true, laidLooks := .later }
def FragCutsUptoCardSaid : Prop := Claim7.holds Tryd.pinned (.plain (OpenSpec.upto fragCutsSpec)) fragCutsUptoCard
end Rows
end Go.Proofs.YtimpnnhadjfijaaDoor
