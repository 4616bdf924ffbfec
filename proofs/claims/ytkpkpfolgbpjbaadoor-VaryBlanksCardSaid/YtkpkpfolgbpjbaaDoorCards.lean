/-
  DERIVED. GIVEN WITH THE SEED: THE CARDS: each row of YtkpkpfolgbpjbaaDoorRows.lean that lists a variable, with what it lists TIED to the program's text (the seventh form; the later family's looks); each row that meets fmt, with fmt's text TOLD by the authors' own Lean function (tested against real Go, not proved from fmt's source: count such statements apart). THE CARD IS WHAT COUNTS. Prove the row's statement (the work); the ties are given (YtkpkpfolgbpjbaaDoorTie.lean); close each card by the builder's one call (the guide's Derived/Test/ToyasCard.lean, 'card_holds'). Laid BY PROGRAM, IN A SANDBOX (cutbox-door.mjs). By AI agents, Wed Nov 11 2026. No macro, syntax, notation, axiom, sorry.
-/
import Derived.Test.YtkpkpfolgbpjbaaDoorRows
import GoSem.ClaimSeven
namespace Go.Proofs.YtkpkpfolgbpjbaaDoor
namespace Rows

/-- THE TIED CARD OF 'ambrylaw13.CtrlWrites'. -/
def ctrlWritesCard : Claim7 := { stood := { row := ctrlWritesRow, standIns := [], harness := (true, "0ac6c866731bc8d934a400d327dc1f425fe546db33270132a4e0564c932cbd6c"), looks := false }, kinds := [], alts := [], laidByText := true, laidKinds := [.data, .data, .data, .data, .pinned], laidTests := true, laidLooks := .later }
def CtrlWritesCardSaid : Prop := Claim7.holds Tryd.pinned (.plain (OpenSpec.ofChange ctrlWritesSpec)) ctrlWritesCard

/-- THE TIED CARD OF 'ambrylaw13.CtrlOrder'. -/
def ctrlOrderCard : Claim7 := { stood := { row := ctrlOrderRow, standIns := [], harness := (true, "0ac6c866731bc8d934a400d327dc1f425fe546db33270132a4e0564c932cbd6c"), looks := false }, kinds := [], alts := [], laidByText := true, laidKinds := [.data, .data, .data, .data, .pinned], laidTests := true, laidLooks := .later }
def CtrlOrderCardSaid : Prop := Claim7.holds Tryd.pinned (.plain (OpenSpec.ofChange ctrlOrderSpec)) ctrlOrderCard

/-- THE TIED CARD OF 'ambrylaw13.CtrlCase'. -/
def ctrlCaseCard : Claim7 := { stood := { row := ctrlCaseRow, standIns := [], harness := (true, "0ac6c866731bc8d934a400d327dc1f425fe546db33270132a4e0564c932cbd6c"), looks := false }, kinds := [], alts := [], laidByText := true, laidKinds := [.data, .data, .data, .data, .pinned], laidTests := true, laidLooks := .later }
def CtrlCaseCardSaid : Prop := Claim7.holds Tryd.pinned (.plain (OpenSpec.ofChange ctrlCaseSpec)) ctrlCaseCard

/-- THE TIED CARD OF 'ambrylaw15.VaryNames'. -/
def varyNamesCard : Claim7 := { stood := { row := varyNamesRow, standIns := [], harness := (true, "0ac6c866731bc8d934a400d327dc1f425fe546db33270132a4e0564c932cbd6c"), looks := false }, kinds := [], alts := [], laidByText := true, laidKinds := [.data, .pinned], laidTests := true, laidLooks := .later }
def VaryNamesCardSaid : Prop := Claim7.holds Tryd.pinned (.plain (OpenSpec.ofChange varyNamesSpec)) varyNamesCard

/-- THE TIED CARD OF 'ambrylaw15.VaryMatches'. -/
def varyMatchesCard : Claim7 := { stood := { row := varyMatchesRow, standIns := [], harness := (true, "0ac6c866731bc8d934a400d327dc1f425fe546db33270132a4e0564c932cbd6c"), looks := false }, kinds := [], alts := [], laidByText := true, laidKinds := [.data, .pinned], laidTests := true, laidLooks := .later }
def VaryMatchesCardSaid : Prop := Claim7.holds Tryd.pinned (.plain (OpenSpec.ofChange varyMatchesSpec)) varyMatchesCard

/-- THE TIED CARD OF 'ambrylaw15.VaryBlanks'. -/
def varyBlanksCard : Claim7 := { stood := { row := varyBlanksRow, standIns := [], harness := (true, "0ac6c866731bc8d934a400d327dc1f425fe546db33270132a4e0564c932cbd6c"), looks := false }, kinds := [], alts := [], laidByText := true, laidKinds := [.data, .pinned], laidTests := true, laidLooks := .later }
def VaryBlanksCardSaid : Prop := Claim7.holds Tryd.pinned (.plain (OpenSpec.ofChange varyBlanksSpec)) varyBlanksCard

/-- THE TIED CARD OF 'ambrylaw15.VaryStar'. -/
def varyStarCard : Claim7 := { stood := { row := varyStarRow, standIns := [], harness := (true, "0ac6c866731bc8d934a400d327dc1f425fe546db33270132a4e0564c932cbd6c"), looks := false }, kinds := [], alts := [], laidByText := true, laidKinds := [.data, .pinned], laidTests := true, laidLooks := .later }
def VaryStarCardSaid : Prop := Claim7.holds Tryd.pinned (.plain (OpenSpec.ofChange varyStarSpec)) varyStarCard

/-- THE SECOND FORM's CARD OF 'ambrylaw13.CtrlWrites'. -/
def ctrlWritesUptoCard : Claim7 := { stood := { row := ctrlWritesUptoRow, standIns := [], harness := (true, "0ac6c866731bc8d934a400d327dc1f425fe546db33270132a4e0564c932cbd6c"), looks := false }, kinds := [], alts := [], laidByText := true, laidKinds := [.data, .data, .data, .data, .pinned], laidTests := true, laidLooks := .later }
def CtrlWritesUptoCardSaid : Prop := Claim7.holds Tryd.pinned (.plain (OpenSpec.upto ctrlWritesSpec)) ctrlWritesUptoCard

/-- THE SECOND FORM's CARD OF 'ambrylaw13.CtrlOrder'. -/
def ctrlOrderUptoCard : Claim7 := { stood := { row := ctrlOrderUptoRow, standIns := [], harness := (true, "0ac6c866731bc8d934a400d327dc1f425fe546db33270132a4e0564c932cbd6c"), looks := false }, kinds := [], alts := [], laidByText := true, laidKinds := [.data, .data, .data, .data, .pinned], laidTests := true, laidLooks := .later }
def CtrlOrderUptoCardSaid : Prop := Claim7.holds Tryd.pinned (.plain (OpenSpec.upto ctrlOrderSpec)) ctrlOrderUptoCard

/-- THE SECOND FORM's CARD OF 'ambrylaw13.CtrlCase'. -/
def ctrlCaseUptoCard : Claim7 := { stood := { row := ctrlCaseUptoRow, standIns := [], harness := (true, "0ac6c866731bc8d934a400d327dc1f425fe546db33270132a4e0564c932cbd6c"), looks := false }, kinds := [], alts := [], laidByText := true, laidKinds := [.data, .data, .data, .data, .pinned], laidTests := true, laidLooks := .later }
def CtrlCaseUptoCardSaid : Prop := Claim7.holds Tryd.pinned (.plain (OpenSpec.upto ctrlCaseSpec)) ctrlCaseUptoCard

/-- THE SECOND FORM's CARD OF 'ambrylaw15.VaryNames'. -/
def varyNamesUptoCard : Claim7 := { stood := { row := varyNamesUptoRow, standIns := [], harness := (true, "0ac6c866731bc8d934a400d327dc1f425fe546db33270132a4e0564c932cbd6c"), looks := false }, kinds := [], alts := [], laidByText := true, laidKinds := [.data, .pinned], laidTests := true, laidLooks := .later }
def VaryNamesUptoCardSaid : Prop := Claim7.holds Tryd.pinned (.plain (OpenSpec.upto varyNamesSpec)) varyNamesUptoCard

/-- THE SECOND FORM's CARD OF 'ambrylaw15.VaryMatches'. -/
def varyMatchesUptoCard : Claim7 := { stood := { row := varyMatchesUptoRow, standIns := [], harness := (true, "0ac6c866731bc8d934a400d327dc1f425fe546db33270132a4e0564c932cbd6c"), looks := false }, kinds := [], alts := [], laidByText := true, laidKinds := [.data, .pinned], laidTests := true, laidLooks := .later }
def VaryMatchesUptoCardSaid : Prop := Claim7.holds Tryd.pinned (.plain (OpenSpec.upto varyMatchesSpec)) varyMatchesUptoCard

/-- THE SECOND FORM's CARD OF 'ambrylaw15.VaryBlanks'. -/
def varyBlanksUptoCard : Claim7 := { stood := { row := varyBlanksUptoRow, standIns := [], harness := (true, "0ac6c866731bc8d934a400d327dc1f425fe546db33270132a4e0564c932cbd6c"), looks := false }, kinds := [], alts := [], laidByText := true, laidKinds := [.data, .pinned], laidTests := true, laidLooks := .later }
def VaryBlanksUptoCardSaid : Prop := Claim7.holds Tryd.pinned (.plain (OpenSpec.upto varyBlanksSpec)) varyBlanksUptoCard

/-- THE SECOND FORM's CARD OF 'ambrylaw15.VaryStar'. -/
def varyStarUptoCard : Claim7 := { stood := { row := varyStarUptoRow, standIns := [], harness := (true, "0ac6c866731bc8d934a400d327dc1f425fe546db33270132a4e0564c932cbd6c"), looks := false }, kinds := [], alts := [], laidByText := true, laidKinds := [.data, .pinned], laidTests := true, laidLooks := .later }
def VaryStarUptoCardSaid : Prop := Claim7.holds Tryd.pinned (.plain (OpenSpec.upto varyStarSpec)) varyStarUptoCard
end Rows
end Go.Proofs.YtkpkpfolgbpjbaaDoor
