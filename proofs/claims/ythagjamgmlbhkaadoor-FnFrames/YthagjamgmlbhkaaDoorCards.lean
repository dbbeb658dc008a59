/-
  DERIVED. GIVEN WITH THE SEED: THE CARDS: each row of YthagjamgmlbhkaaDoorRows.lean that lists a variable, with what it lists TIED to the program's text (the seventh form; the later family's looks); each row that meets fmt, with fmt's text TOLD by the authors' own Lean function (tested against real Go, not proved from fmt's source: count such statements apart). THE CARD IS WHAT COUNTS. Prove the row's statement (the work); the ties are given (YthagjamgmlbhkaaDoorTie.lean); close each card by the builder's one call (the guide's Derived/Test/ToyasCard.lean, 'card_holds'). Laid BY PROGRAM, IN A SANDBOX (cutbox-door.mjs). By AI agents, Wed Nov 11 2026. No macro, syntax, notation, axiom, sorry.
-/
import Derived.Test.YthagjamgmlbhkaaDoorRows
import GoSem.ClaimSeven
namespace Go.Proofs.YthagjamgmlbhkaaDoor
namespace Rows

/-- THE TIED CARD OF 'laws.FnFrames'. -/
def fnFramesCard : Claim7 := { stood := { row := fnFramesRow, standIns := [], harness := (true, "4a74f589b47afeb1fd57bb6d84a8dfe433e6f4c8c365f3373d26123b10c05c7f"), looks := true }, kinds := [], alts := [], laidByText := true, laidKinds := [.data, .sentinel, .sentinel, .sentinel, .sentinel, .sentinel], laidTests := true, laidLooks := .later }
def FnFramesCardSaid : Prop := Claim7.holds Tryd.pinned (.plain (OpenSpec.ofChange fnFramesSpec)) fnFramesCard

/-- THE TIED CARD OF 'laws.FnExactShowFrame'. -/
def fnExactShowFrameCard : Claim7 := { stood := { row := fnExactShowFrameRow, standIns := [], harness := (true, "4a74f589b47afeb1fd57bb6d84a8dfe433e6f4c8c365f3373d26123b10c05c7f"), looks := true }, kinds := [], alts := [], laidByText := true, laidKinds := [.data], laidTests := true, laidLooks := .later }
def FnExactShowFrameCardSaid : Prop := Claim7.holds Tryd.pinned (.plain (OpenSpec.ofChange fnExactShowFrameSpec)) fnExactShowFrameCard

/-- THE TIED CARD OF 'laws.FnExactReadFrame'. -/
def fnExactReadFrameCard : Claim7 := { stood := { row := fnExactReadFrameRow, standIns := [], harness := (true, "4a74f589b47afeb1fd57bb6d84a8dfe433e6f4c8c365f3373d26123b10c05c7f"), looks := true }, kinds := [], alts := [], laidByText := true, laidKinds := [.data], laidTests := true, laidLooks := .later }
def FnExactReadFrameCardSaid : Prop := Claim7.holds Tryd.pinned (.plain (OpenSpec.ofChange fnExactReadFrameSpec)) fnExactReadFrameCard

/-- THE TIED CARD OF 'laws.FnExactShowLog'. -/
def fnExactShowLogCard : Claim7 := { stood := { row := fnExactShowLogRow, standIns := [], harness := (true, "4a74f589b47afeb1fd57bb6d84a8dfe433e6f4c8c365f3373d26123b10c05c7f"), looks := true }, kinds := [], alts := [], laidByText := true, laidKinds := [.data], laidTests := true, laidLooks := .later }
def FnExactShowLogCardSaid : Prop := Claim7.holds Tryd.pinned (.plain (OpenSpec.ofChange fnExactShowLogSpec)) fnExactShowLogCard

/-- THE TIED CARD OF 'laws.FnExactReadLog'. -/
def fnExactReadLogCard : Claim7 := { stood := { row := fnExactReadLogRow, standIns := [], harness := (true, "4a74f589b47afeb1fd57bb6d84a8dfe433e6f4c8c365f3373d26123b10c05c7f"), looks := true }, kinds := [], alts := [], laidByText := true, laidKinds := [.data, .sentinel, .sentinel, .sentinel, .sentinel, .sentinel], laidTests := true, laidLooks := .later }
def FnExactReadLogCardSaid : Prop := Claim7.holds Tryd.pinned (.plain (OpenSpec.ofChange fnExactReadLogSpec)) fnExactReadLogCard

/-- THE TIED CARD OF 'laws.FnExactFrameSpots'. -/
def fnExactFrameSpotsCard : Claim7 := { stood := { row := fnExactFrameSpotsRow, standIns := [], harness := (true, "4a74f589b47afeb1fd57bb6d84a8dfe433e6f4c8c365f3373d26123b10c05c7f"), looks := true }, kinds := [], alts := [], laidByText := true, laidKinds := [.data, .sentinel, .sentinel, .sentinel], laidTests := true, laidLooks := .later }
def FnExactFrameSpotsCardSaid : Prop := Claim7.holds Tryd.pinned (.plain (OpenSpec.ofChange fnExactFrameSpotsSpec)) fnExactFrameSpotsCard

/-- THE SECOND FORM's CARD OF 'laws.FnFrames'. -/
def fnFramesUptoCard : Claim7 := { stood := { row := fnFramesUptoRow, standIns := [], harness := (true, "4a74f589b47afeb1fd57bb6d84a8dfe433e6f4c8c365f3373d26123b10c05c7f"), looks := true }, kinds := [], alts := [], laidByText := true, laidKinds := [.data, .sentinel, .sentinel, .sentinel, .sentinel, .sentinel], laidTests := true, laidLooks := .later }
def FnFramesUptoCardSaid : Prop := Claim7.holds Tryd.pinned (.plain (OpenSpec.upto fnFramesSpec)) fnFramesUptoCard

/-- THE SECOND FORM's CARD OF 'laws.FnExactShowFrame'. -/
def fnExactShowFrameUptoCard : Claim7 := { stood := { row := fnExactShowFrameUptoRow, standIns := [], harness := (true, "4a74f589b47afeb1fd57bb6d84a8dfe433e6f4c8c365f3373d26123b10c05c7f"), looks := true }, kinds := [], alts := [], laidByText := true, laidKinds := [.data], laidTests := true, laidLooks := .later }
def FnExactShowFrameUptoCardSaid : Prop := Claim7.holds Tryd.pinned (.plain (OpenSpec.upto fnExactShowFrameSpec)) fnExactShowFrameUptoCard

/-- THE SECOND FORM's CARD OF 'laws.FnExactReadFrame'. -/
def fnExactReadFrameUptoCard : Claim7 := { stood := { row := fnExactReadFrameUptoRow, standIns := [], harness := (true, "4a74f589b47afeb1fd57bb6d84a8dfe433e6f4c8c365f3373d26123b10c05c7f"), looks := true }, kinds := [], alts := [], laidByText := true, laidKinds := [.data], laidTests := true, laidLooks := .later }
def FnExactReadFrameUptoCardSaid : Prop := Claim7.holds Tryd.pinned (.plain (OpenSpec.upto fnExactReadFrameSpec)) fnExactReadFrameUptoCard

/-- THE SECOND FORM's CARD OF 'laws.FnExactShowLog'. -/
def fnExactShowLogUptoCard : Claim7 := { stood := { row := fnExactShowLogUptoRow, standIns := [], harness := (true, "4a74f589b47afeb1fd57bb6d84a8dfe433e6f4c8c365f3373d26123b10c05c7f"), looks := true }, kinds := [], alts := [], laidByText := true, laidKinds := [.data], laidTests := true, laidLooks := .later }
def FnExactShowLogUptoCardSaid : Prop := Claim7.holds Tryd.pinned (.plain (OpenSpec.upto fnExactShowLogSpec)) fnExactShowLogUptoCard

/-- THE SECOND FORM's CARD OF 'laws.FnExactReadLog'. -/
def fnExactReadLogUptoCard : Claim7 := { stood := { row := fnExactReadLogUptoRow, standIns := [], harness := (true, "4a74f589b47afeb1fd57bb6d84a8dfe433e6f4c8c365f3373d26123b10c05c7f"), looks := true }, kinds := [], alts := [], laidByText := true, laidKinds := [.data, .sentinel, .sentinel, .sentinel, .sentinel, .sentinel], laidTests := true, laidLooks := .later }
def FnExactReadLogUptoCardSaid : Prop := Claim7.holds Tryd.pinned (.plain (OpenSpec.upto fnExactReadLogSpec)) fnExactReadLogUptoCard

/-- THE SECOND FORM's CARD OF 'laws.FnExactFrameSpots'. -/
def fnExactFrameSpotsUptoCard : Claim7 := { stood := { row := fnExactFrameSpotsUptoRow, standIns := [], harness := (true, "4a74f589b47afeb1fd57bb6d84a8dfe433e6f4c8c365f3373d26123b10c05c7f"), looks := true }, kinds := [], alts := [], laidByText := true, laidKinds := [.data, .sentinel, .sentinel, .sentinel], laidTests := true, laidLooks := .later }
def FnExactFrameSpotsUptoCardSaid : Prop := Claim7.holds Tryd.pinned (.plain (OpenSpec.upto fnExactFrameSpotsSpec)) fnExactFrameSpotsUptoCard
end Rows
end Go.Proofs.YthagjamgmlbhkaaDoor
