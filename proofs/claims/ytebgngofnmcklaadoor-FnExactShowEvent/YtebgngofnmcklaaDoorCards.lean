/-
  DERIVED. GIVEN WITH THE SEED: THE CARDS: each row of YtebgngofnmcklaaDoorRows.lean that lists a variable, with what it lists TIED to the program's text (the seventh form; the later family's looks); each row that meets fmt, with fmt's text TOLD by the authors' own Lean function (tested against real Go, not proved from fmt's source: count such statements apart). THE CARD IS WHAT COUNTS. Prove the row's statement (the work); the ties are given (YtebgngofnmcklaaDoorTie.lean); close each card by the builder's one call (the guide's Derived/Test/ToyasCard.lean, 'card_holds'). Laid BY PROGRAM, IN A SANDBOX (cutbox-door.mjs). By AI agents, Wed Nov 11 2026. No macro, syntax, notation, axiom, sorry.
-/
import Derived.Test.YtebgngofnmcklaaDoorRows
import GoSem.ClaimSeven
namespace Go.Proofs.YtebgngofnmcklaaDoor
namespace Rows

/-- THE TIED CARD OF 'laws.FnExactSpeakable'. -/
def fnExactSpeakableCard : Claim7 := { stood := { row := fnExactSpeakableRow, standIns := [], harness := (true, "e4c0cac3fffd44bad00067c09b4e00a5105e9e2b724c70b6990ee3877344d4a9"), looks := false }, kinds := [], alts := [], laidByText := true, laidKinds := [.sentinel], laidTests := true, laidLooks := .later }
def FnExactSpeakableCardSaid : Prop := Claim7.holds Tryd.pinned (.plain (OpenSpec.ofChange fnExactSpeakableSpec)) fnExactSpeakableCard

/-- THE TIED CARD OF 'laws.FnExactShowEvent'. -/
def fnExactShowEventCard : Claim7 := { stood := { row := fnExactShowEventRow, standIns := [], harness := (true, "e4c0cac3fffd44bad00067c09b4e00a5105e9e2b724c70b6990ee3877344d4a9"), looks := false }, kinds := [], alts := [], laidByText := true, laidKinds := [.sentinel], laidTests := true, laidLooks := .later }
def FnExactShowEventCardSaid : Prop := Claim7.holds Tryd.pinned (.plain (OpenSpec.ofChange fnExactShowEventSpec)) fnExactShowEventCard

/-- THE TIED CARD OF 'laws.FnExactReadEvent'. -/
def fnExactReadEventCard : Claim7 := { stood := { row := fnExactReadEventRow, standIns := [], harness := (true, "e4c0cac3fffd44bad00067c09b4e00a5105e9e2b724c70b6990ee3877344d4a9"), looks := false }, kinds := [], alts := [], laidByText := true, laidKinds := [.sentinel], laidTests := true, laidLooks := .later }
def FnExactReadEventCardSaid : Prop := Claim7.holds Tryd.pinned (.plain (OpenSpec.ofChange fnExactReadEventSpec)) fnExactReadEventCard

/-- THE SECOND FORM's CARD OF 'laws.FnExactSpeakable'. -/
def fnExactSpeakableUptoCard : Claim7 := { stood := { row := fnExactSpeakableUptoRow, standIns := [], harness := (true, "e4c0cac3fffd44bad00067c09b4e00a5105e9e2b724c70b6990ee3877344d4a9"), looks := false }, kinds := [], alts := [], laidByText := true, laidKinds := [.sentinel], laidTests := true, laidLooks := .later }
def FnExactSpeakableUptoCardSaid : Prop := Claim7.holds Tryd.pinned (.plain (OpenSpec.upto fnExactSpeakableSpec)) fnExactSpeakableUptoCard

/-- THE SECOND FORM's CARD OF 'laws.FnExactShowEvent'. -/
def fnExactShowEventUptoCard : Claim7 := { stood := { row := fnExactShowEventUptoRow, standIns := [], harness := (true, "e4c0cac3fffd44bad00067c09b4e00a5105e9e2b724c70b6990ee3877344d4a9"), looks := false }, kinds := [], alts := [], laidByText := true, laidKinds := [.sentinel], laidTests := true, laidLooks := .later }
def FnExactShowEventUptoCardSaid : Prop := Claim7.holds Tryd.pinned (.plain (OpenSpec.upto fnExactShowEventSpec)) fnExactShowEventUptoCard

/-- THE SECOND FORM's CARD OF 'laws.FnExactReadEvent'. -/
def fnExactReadEventUptoCard : Claim7 := { stood := { row := fnExactReadEventUptoRow, standIns := [], harness := (true, "e4c0cac3fffd44bad00067c09b4e00a5105e9e2b724c70b6990ee3877344d4a9"), looks := false }, kinds := [], alts := [], laidByText := true, laidKinds := [.sentinel], laidTests := true, laidLooks := .later }
def FnExactReadEventUptoCardSaid : Prop := Claim7.holds Tryd.pinned (.plain (OpenSpec.upto fnExactReadEventSpec)) fnExactReadEventUptoCard
end Rows
end Go.Proofs.YtebgngofnmcklaaDoor
