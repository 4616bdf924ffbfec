/-
  DERIVED. GIVEN WITH THE SEED: THE CARDS: each row of YtgfinhkplijhbaaGreatDoorRows.lean that lists a variable, with what it lists TIED to the program's text (the seventh form; the later family's looks); each row that meets fmt, with fmt's text TOLD by the authors' own Lean function (tested against real Go, not proved from fmt's source: count such statements apart). THE CARD IS WHAT COUNTS. Prove the row's statement (the work); the ties are given (YtgfinhkplijhbaaGreatDoorTie.lean); close each card by the builder's one call (the guide's Derived/Test/ToyasCard.lean, 'card_holds'). Laid BY PROGRAM, IN A SANDBOX (cutbox-door.mjs). By AI agents, Wed Nov 11 2026. No macro, syntax, notation, axiom, sorry.
-/
import Derived.Test.YtgfinhkplijhbaaGreatDoorRows
import GoSem.ClaimSeven
namespace Go.Proofs.YtgfinhkplijhbaaGreatDoor
namespace Rows

/-- THE TIED CARD OF 'ambrylaw17.PolicyMay'. -/
def policyMayCard : Claim7 := { stood := { row := policyMayRow, standIns := [], harness := (true, "a49b370e97d5b6edb91859ef1501e3ca8d2508e79823c8a5945f3eb7b6ab0099"), looks := false }, kinds := [], alts := [], laidByText := true, laidKinds := [.data, .pinned], laidTests := true, laidLooks := .later }
def PolicyMayCardSaid : Prop := Claim7.holds Tryz.pinned (.plain (OpenSpec.ofChange policyMaySpec)) policyMayCard

/-- THE TIED CARD OF 'ambrylaw17.PolicyKeys'. -/
def policyKeysCard : Claim7 := { stood := { row := policyKeysRow, standIns := [], harness := (true, "a49b370e97d5b6edb91859ef1501e3ca8d2508e79823c8a5945f3eb7b6ab0099"), looks := false }, kinds := [], alts := [], laidByText := true, laidKinds := [.data, .pinned], laidTests := true, laidLooks := .later }
def PolicyKeysCardSaid : Prop := Claim7.holds Tryz.pinned (.plain (OpenSpec.ofChange policyKeysSpec)) policyKeysCard

/-- THE TIED CARD OF 'ambrylaw17.PolicyGreat'. -/
def policyGreatCard : Claim7 := { stood := { row := policyGreatRow, standIns := [], harness := (true, "a49b370e97d5b6edb91859ef1501e3ca8d2508e79823c8a5945f3eb7b6ab0099"), looks := false }, kinds := [], alts := [], laidByText := true, laidKinds := [.data, .pinned], laidTests := true, laidLooks := .later }
def PolicyGreatCardSaid : Prop := Claim7.holds Tryz.pinned (.plain (OpenSpec.ofChange policyGreatSpec)) policyGreatCard

/-- THE TIED CARD OF 'ambrylaw17.PolicyStatus'. -/
def policyStatusCard : Claim7 := { stood := { row := policyStatusRow, standIns := [], harness := (true, "a49b370e97d5b6edb91859ef1501e3ca8d2508e79823c8a5945f3eb7b6ab0099"), looks := false }, kinds := [], alts := [], laidByText := true, laidKinds := [.data, .pinned], laidTests := true, laidLooks := .later }
def PolicyStatusCardSaid : Prop := Claim7.holds Tryz.pinned (.plain (OpenSpec.ofChange policyStatusSpec)) policyStatusCard

/-- THE TIED CARD OF 'ambrylaw17.PolicyAuth'. -/
def policyAuthCard : Claim7 := { stood := { row := policyAuthRow, standIns := [], harness := (true, "a49b370e97d5b6edb91859ef1501e3ca8d2508e79823c8a5945f3eb7b6ab0099"), looks := false }, kinds := [], alts := [], laidByText := true, laidKinds := [.data, .pinned], laidTests := true, laidLooks := .later }
def PolicyAuthCardSaid : Prop := Claim7.holds Tryz.pinned (.plain (OpenSpec.ofChange policyAuthSpec)) policyAuthCard

/-- THE TIED CARD OF 'ambrylaw17.PolicyWords'. -/
def policyWordsCard : Claim7 := { stood := { row := policyWordsRow, standIns := [], harness := (true, "a49b370e97d5b6edb91859ef1501e3ca8d2508e79823c8a5945f3eb7b6ab0099"), looks := false }, kinds := [], alts := [], laidByText := true, laidKinds := [.data, .pinned], laidTests := true, laidLooks := .later }
def PolicyWordsCardSaid : Prop := Claim7.holds Tryz.pinned (.plain (OpenSpec.ofChange policyWordsSpec)) policyWordsCard

/-- THE SECOND FORM's CARD OF 'ambrylaw17.PolicyMay'. -/
def policyMayUptoCard : Claim7 := { stood := { row := policyMayUptoRow, standIns := [], harness := (true, "a49b370e97d5b6edb91859ef1501e3ca8d2508e79823c8a5945f3eb7b6ab0099"), looks := false }, kinds := [], alts := [], laidByText := true, laidKinds := [.data, .pinned], laidTests := true, laidLooks := .later }
def PolicyMayUptoCardSaid : Prop := Claim7.holds Tryz.pinned (.plain (OpenSpec.upto policyMaySpec)) policyMayUptoCard

/-- THE SECOND FORM's CARD OF 'ambrylaw17.PolicyKeys'. -/
def policyKeysUptoCard : Claim7 := { stood := { row := policyKeysUptoRow, standIns := [], harness := (true, "a49b370e97d5b6edb91859ef1501e3ca8d2508e79823c8a5945f3eb7b6ab0099"), looks := false }, kinds := [], alts := [], laidByText := true, laidKinds := [.data, .pinned], laidTests := true, laidLooks := .later }
def PolicyKeysUptoCardSaid : Prop := Claim7.holds Tryz.pinned (.plain (OpenSpec.upto policyKeysSpec)) policyKeysUptoCard

/-- THE SECOND FORM's CARD OF 'ambrylaw17.PolicyGreat'. -/
def policyGreatUptoCard : Claim7 := { stood := { row := policyGreatUptoRow, standIns := [], harness := (true, "a49b370e97d5b6edb91859ef1501e3ca8d2508e79823c8a5945f3eb7b6ab0099"), looks := false }, kinds := [], alts := [], laidByText := true, laidKinds := [.data, .pinned], laidTests := true, laidLooks := .later }
def PolicyGreatUptoCardSaid : Prop := Claim7.holds Tryz.pinned (.plain (OpenSpec.upto policyGreatSpec)) policyGreatUptoCard

/-- THE SECOND FORM's CARD OF 'ambrylaw17.PolicyStatus'. -/
def policyStatusUptoCard : Claim7 := { stood := { row := policyStatusUptoRow, standIns := [], harness := (true, "a49b370e97d5b6edb91859ef1501e3ca8d2508e79823c8a5945f3eb7b6ab0099"), looks := false }, kinds := [], alts := [], laidByText := true, laidKinds := [.data, .pinned], laidTests := true, laidLooks := .later }
def PolicyStatusUptoCardSaid : Prop := Claim7.holds Tryz.pinned (.plain (OpenSpec.upto policyStatusSpec)) policyStatusUptoCard

/-- THE SECOND FORM's CARD OF 'ambrylaw17.PolicyAuth'. -/
def policyAuthUptoCard : Claim7 := { stood := { row := policyAuthUptoRow, standIns := [], harness := (true, "a49b370e97d5b6edb91859ef1501e3ca8d2508e79823c8a5945f3eb7b6ab0099"), looks := false }, kinds := [], alts := [], laidByText := true, laidKinds := [.data, .pinned], laidTests := true, laidLooks := .later }
def PolicyAuthUptoCardSaid : Prop := Claim7.holds Tryz.pinned (.plain (OpenSpec.upto policyAuthSpec)) policyAuthUptoCard

/-- THE SECOND FORM's CARD OF 'ambrylaw17.PolicyWords'. -/
def policyWordsUptoCard : Claim7 := { stood := { row := policyWordsUptoRow, standIns := [], harness := (true, "a49b370e97d5b6edb91859ef1501e3ca8d2508e79823c8a5945f3eb7b6ab0099"), looks := false }, kinds := [], alts := [], laidByText := true, laidKinds := [.data, .pinned], laidTests := true, laidLooks := .later }
def PolicyWordsUptoCardSaid : Prop := Claim7.holds Tryz.pinned (.plain (OpenSpec.upto policyWordsSpec)) policyWordsUptoCard
end Rows
end Go.Proofs.YtgfinhkplijhbaaGreatDoor
