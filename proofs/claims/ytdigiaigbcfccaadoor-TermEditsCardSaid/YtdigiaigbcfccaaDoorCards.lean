/-
  DERIVED. GIVEN WITH THE SEED: THE CARDS: each row of YtdigiaigbcfccaaDoorRows.lean that lists a variable, with what it lists TIED to the program's text (the seventh form; the later family's looks); each row that meets fmt, with fmt's text TOLD by the authors' own Lean function (tested against real Go, not proved from fmt's source: count such statements apart). THE CARD IS WHAT COUNTS. Prove the row's statement (the work); the ties are given (YtdigiaigbcfccaaDoorTie.lean); close each card by the builder's one call (the guide's Derived/Test/ToyasCard.lean, 'card_holds'). Laid BY PROGRAM, IN A SANDBOX (cutbox-door.mjs). By AI agents, Wed Nov 11 2026. No macro, syntax, notation, axiom, sorry.
-/
import Derived.Test.YtdigiaigbcfccaaDoorRows
import GoSem.ClaimSeven
namespace Go.Proofs.YtdigiaigbcfccaaDoor
namespace Rows

/-- THE TIED CARD OF 'riparianlaw01.TermChecks'. -/
def termChecksCard : Claim7 := { stood := { row := termChecksRow, standIns := [], harness := (true, "51c38beceff14adb71a30a7da4936e16795b3feae4044dc98920393cb8b2f53a"), looks := false }, kinds := [], alts := [], laidByText := true, laidKinds := [.data, .data, .data], laidTests := true, laidLooks := .later }
def TermChecksCardSaid : Prop := Claim7.holds Tryd.pinned (.plain (OpenSpec.ofChange termChecksSpec)) termChecksCard

/-- THE TIED CARD OF 'riparianlaw01.TermPlaces'. -/
def termPlacesCard : Claim7 := { stood := { row := termPlacesRow, standIns := [], harness := (true, "51c38beceff14adb71a30a7da4936e16795b3feae4044dc98920393cb8b2f53a"), looks := false }, kinds := [], alts := [], laidByText := true, laidKinds := [.data, .data, .data], laidTests := true, laidLooks := .later }
def TermPlacesCardSaid : Prop := Claim7.holds Tryd.pinned (.plain (OpenSpec.ofChange termPlacesSpec)) termPlacesCard

/-- THE TIED CARD OF 'riparianlaw01.TermSubsts'. -/
def termSubstsCard : Claim7 := { stood := { row := termSubstsRow, standIns := [], harness := (true, "51c38beceff14adb71a30a7da4936e16795b3feae4044dc98920393cb8b2f53a"), looks := false }, kinds := [], alts := [], laidByText := true, laidKinds := [.data, .data, .data], laidTests := true, laidLooks := .later }
def TermSubstsCardSaid : Prop := Claim7.holds Tryd.pinned (.plain (OpenSpec.ofChange termSubstsSpec)) termSubstsCard

/-- THE TIED CARD OF 'riparianlaw01.TermMatches'. -/
def termMatchesCard : Claim7 := { stood := { row := termMatchesRow, standIns := [], harness := (true, "51c38beceff14adb71a30a7da4936e16795b3feae4044dc98920393cb8b2f53a"), looks := false }, kinds := [], alts := [], laidByText := true, laidKinds := [.data, .data, .data], laidTests := true, laidLooks := .later }
def TermMatchesCardSaid : Prop := Claim7.holds Tryd.pinned (.plain (OpenSpec.ofChange termMatchesSpec)) termMatchesCard

/-- THE TIED CARD OF 'riparianlaw01.TermLists'. -/
def termListsCard : Claim7 := { stood := { row := termListsRow, standIns := [], harness := (true, "51c38beceff14adb71a30a7da4936e16795b3feae4044dc98920393cb8b2f53a"), looks := false }, kinds := [], alts := [], laidByText := true, laidKinds := [.data, .data, .data], laidTests := true, laidLooks := .later }
def TermListsCardSaid : Prop := Claim7.holds Tryd.pinned (.plain (OpenSpec.ofChange termListsSpec)) termListsCard

/-- THE TIED CARD OF 'riparianlaw01.TermLeast'. -/
def termLeastCard : Claim7 := { stood := { row := termLeastRow, standIns := [], harness := (true, "51c38beceff14adb71a30a7da4936e16795b3feae4044dc98920393cb8b2f53a"), looks := false }, kinds := [], alts := [], laidByText := true, laidKinds := [.data, .data, .data], laidTests := true, laidLooks := .later }
def TermLeastCardSaid : Prop := Claim7.holds Tryd.pinned (.plain (OpenSpec.ofChange termLeastSpec)) termLeastCard

/-- THE TIED CARD OF 'riparianlaw01.TermTotal'. -/
def termTotalCard : Claim7 := { stood := { row := termTotalRow, standIns := [], harness := (true, "51c38beceff14adb71a30a7da4936e16795b3feae4044dc98920393cb8b2f53a"), looks := false }, kinds := [], alts := [], laidByText := true, laidKinds := [.data, .data, .data], laidTests := true, laidLooks := .later }
def TermTotalCardSaid : Prop := Claim7.holds Tryd.pinned (.plain (OpenSpec.ofChange termTotalSpec)) termTotalCard

/-- THE TIED CARD OF 'riparianlaw01.TermEdits'. -/
def termEditsCard : Claim7 := { stood := { row := termEditsRow, standIns := [], harness := (true, "51c38beceff14adb71a30a7da4936e16795b3feae4044dc98920393cb8b2f53a"), looks := false }, kinds := [], alts := [], laidByText := true, laidKinds := [.data, .data, .data], laidTests := true, laidLooks := .later }
def TermEditsCardSaid : Prop := Claim7.holds Tryd.pinned (.plain (OpenSpec.ofChange termEditsSpec)) termEditsCard

/-- THE TIED CARD OF 'riparianlaw01.TermComposed'. -/
def termComposedCard : Claim7 := { stood := { row := termComposedRow, standIns := [], harness := (true, "51c38beceff14adb71a30a7da4936e16795b3feae4044dc98920393cb8b2f53a"), looks := false }, kinds := [], alts := [], laidByText := true, laidKinds := [.data, .data, .data], laidTests := true, laidLooks := .later }
def TermComposedCardSaid : Prop := Claim7.holds Tryd.pinned (.plain (OpenSpec.ofChange termComposedSpec)) termComposedCard

/-- THE TIED CARD OF 'riparianlaw01.TermNormal'. -/
def termNormalCard : Claim7 := { stood := { row := termNormalRow, standIns := [], harness := (true, "51c38beceff14adb71a30a7da4936e16795b3feae4044dc98920393cb8b2f53a"), looks := false }, kinds := [], alts := [], laidByText := true, laidKinds := [.data, .data, .data], laidTests := true, laidLooks := .later }
def TermNormalCardSaid : Prop := Claim7.holds Tryd.pinned (.plain (OpenSpec.ofChange termNormalSpec)) termNormalCard

/-- THE TIED CARD OF 'riparianlaw01.TermInstances'. -/
def termInstancesCard : Claim7 := { stood := { row := termInstancesRow, standIns := [], harness := (true, "51c38beceff14adb71a30a7da4936e16795b3feae4044dc98920393cb8b2f53a"), looks := false }, kinds := [], alts := [], laidByText := true, laidKinds := [.data, .data, .data], laidTests := true, laidLooks := .later }
def TermInstancesCardSaid : Prop := Claim7.holds Tryd.pinned (.plain (OpenSpec.ofChange termInstancesSpec)) termInstancesCard

/-- THE TIED CARD OF 'riparianlaw01.TermItems'. -/
def termItemsCard : Claim7 := { stood := { row := termItemsRow, standIns := [], harness := (true, "51c38beceff14adb71a30a7da4936e16795b3feae4044dc98920393cb8b2f53a"), looks := false }, kinds := [], alts := [], laidByText := true, laidKinds := [.data, .data, .data], laidTests := true, laidLooks := .later }
def TermItemsCardSaid : Prop := Claim7.holds Tryd.pinned (.plain (OpenSpec.ofChange termItemsSpec)) termItemsCard

/-- THE TIED CARD OF 'riparianlaw01.TermGround'. -/
def termGroundCard : Claim7 := { stood := { row := termGroundRow, standIns := [], harness := (true, "51c38beceff14adb71a30a7da4936e16795b3feae4044dc98920393cb8b2f53a"), looks := false }, kinds := [], alts := [], laidByText := true, laidKinds := [.data, .data, .data], laidTests := true, laidLooks := .later }
def TermGroundCardSaid : Prop := Claim7.holds Tryd.pinned (.plain (OpenSpec.ofChange termGroundSpec)) termGroundCard

/-- THE SECOND FORM's CARD OF 'riparianlaw01.TermChecks'. -/
def termChecksUptoCard : Claim7 := { stood := { row := termChecksUptoRow, standIns := [], harness := (true, "51c38beceff14adb71a30a7da4936e16795b3feae4044dc98920393cb8b2f53a"), looks := false }, kinds := [], alts := [], laidByText := true, laidKinds := [.data, .data, .data], laidTests := true, laidLooks := .later }
def TermChecksUptoCardSaid : Prop := Claim7.holds Tryd.pinned (.plain (OpenSpec.upto termChecksSpec)) termChecksUptoCard

/-- THE SECOND FORM's CARD OF 'riparianlaw01.TermPlaces'. -/
def termPlacesUptoCard : Claim7 := { stood := { row := termPlacesUptoRow, standIns := [], harness := (true, "51c38beceff14adb71a30a7da4936e16795b3feae4044dc98920393cb8b2f53a"), looks := false }, kinds := [], alts := [], laidByText := true, laidKinds := [.data, .data, .data], laidTests := true, laidLooks := .later }
def TermPlacesUptoCardSaid : Prop := Claim7.holds Tryd.pinned (.plain (OpenSpec.upto termPlacesSpec)) termPlacesUptoCard

/-- THE SECOND FORM's CARD OF 'riparianlaw01.TermSubsts'. -/
def termSubstsUptoCard : Claim7 := { stood := { row := termSubstsUptoRow, standIns := [], harness := (true, "51c38beceff14adb71a30a7da4936e16795b3feae4044dc98920393cb8b2f53a"), looks := false }, kinds := [], alts := [], laidByText := true, laidKinds := [.data, .data, .data], laidTests := true, laidLooks := .later }
def TermSubstsUptoCardSaid : Prop := Claim7.holds Tryd.pinned (.plain (OpenSpec.upto termSubstsSpec)) termSubstsUptoCard

/-- THE SECOND FORM's CARD OF 'riparianlaw01.TermMatches'. -/
def termMatchesUptoCard : Claim7 := { stood := { row := termMatchesUptoRow, standIns := [], harness := (true, "51c38beceff14adb71a30a7da4936e16795b3feae4044dc98920393cb8b2f53a"), looks := false }, kinds := [], alts := [], laidByText := true, laidKinds := [.data, .data, .data], laidTests := true, laidLooks := .later }
def TermMatchesUptoCardSaid : Prop := Claim7.holds Tryd.pinned (.plain (OpenSpec.upto termMatchesSpec)) termMatchesUptoCard

/-- THE SECOND FORM's CARD OF 'riparianlaw01.TermLists'. -/
def termListsUptoCard : Claim7 := { stood := { row := termListsUptoRow, standIns := [], harness := (true, "51c38beceff14adb71a30a7da4936e16795b3feae4044dc98920393cb8b2f53a"), looks := false }, kinds := [], alts := [], laidByText := true, laidKinds := [.data, .data, .data], laidTests := true, laidLooks := .later }
def TermListsUptoCardSaid : Prop := Claim7.holds Tryd.pinned (.plain (OpenSpec.upto termListsSpec)) termListsUptoCard

/-- THE SECOND FORM's CARD OF 'riparianlaw01.TermLeast'. -/
def termLeastUptoCard : Claim7 := { stood := { row := termLeastUptoRow, standIns := [], harness := (true, "51c38beceff14adb71a30a7da4936e16795b3feae4044dc98920393cb8b2f53a"), looks := false }, kinds := [], alts := [], laidByText := true, laidKinds := [.data, .data, .data], laidTests := true, laidLooks := .later }
def TermLeastUptoCardSaid : Prop := Claim7.holds Tryd.pinned (.plain (OpenSpec.upto termLeastSpec)) termLeastUptoCard

/-- THE SECOND FORM's CARD OF 'riparianlaw01.TermTotal'. -/
def termTotalUptoCard : Claim7 := { stood := { row := termTotalUptoRow, standIns := [], harness := (true, "51c38beceff14adb71a30a7da4936e16795b3feae4044dc98920393cb8b2f53a"), looks := false }, kinds := [], alts := [], laidByText := true, laidKinds := [.data, .data, .data], laidTests := true, laidLooks := .later }
def TermTotalUptoCardSaid : Prop := Claim7.holds Tryd.pinned (.plain (OpenSpec.upto termTotalSpec)) termTotalUptoCard

/-- THE SECOND FORM's CARD OF 'riparianlaw01.TermEdits'. -/
def termEditsUptoCard : Claim7 := { stood := { row := termEditsUptoRow, standIns := [], harness := (true, "51c38beceff14adb71a30a7da4936e16795b3feae4044dc98920393cb8b2f53a"), looks := false }, kinds := [], alts := [], laidByText := true, laidKinds := [.data, .data, .data], laidTests := true, laidLooks := .later }
def TermEditsUptoCardSaid : Prop := Claim7.holds Tryd.pinned (.plain (OpenSpec.upto termEditsSpec)) termEditsUptoCard

/-- THE SECOND FORM's CARD OF 'riparianlaw01.TermComposed'. -/
def termComposedUptoCard : Claim7 := { stood := { row := termComposedUptoRow, standIns := [], harness := (true, "51c38beceff14adb71a30a7da4936e16795b3feae4044dc98920393cb8b2f53a"), looks := false }, kinds := [], alts := [], laidByText := true, laidKinds := [.data, .data, .data], laidTests := true, laidLooks := .later }
def TermComposedUptoCardSaid : Prop := Claim7.holds Tryd.pinned (.plain (OpenSpec.upto termComposedSpec)) termComposedUptoCard

/-- THE SECOND FORM's CARD OF 'riparianlaw01.TermNormal'. -/
def termNormalUptoCard : Claim7 := { stood := { row := termNormalUptoRow, standIns := [], harness := (true, "51c38beceff14adb71a30a7da4936e16795b3feae4044dc98920393cb8b2f53a"), looks := false }, kinds := [], alts := [], laidByText := true, laidKinds := [.data, .data, .data], laidTests := true, laidLooks := .later }
def TermNormalUptoCardSaid : Prop := Claim7.holds Tryd.pinned (.plain (OpenSpec.upto termNormalSpec)) termNormalUptoCard

/-- THE SECOND FORM's CARD OF 'riparianlaw01.TermInstances'. -/
def termInstancesUptoCard : Claim7 := { stood := { row := termInstancesUptoRow, standIns := [], harness := (true, "51c38beceff14adb71a30a7da4936e16795b3feae4044dc98920393cb8b2f53a"), looks := false }, kinds := [], alts := [], laidByText := true, laidKinds := [.data, .data, .data], laidTests := true, laidLooks := .later }
def TermInstancesUptoCardSaid : Prop := Claim7.holds Tryd.pinned (.plain (OpenSpec.upto termInstancesSpec)) termInstancesUptoCard

/-- THE SECOND FORM's CARD OF 'riparianlaw01.TermItems'. -/
def termItemsUptoCard : Claim7 := { stood := { row := termItemsUptoRow, standIns := [], harness := (true, "51c38beceff14adb71a30a7da4936e16795b3feae4044dc98920393cb8b2f53a"), looks := false }, kinds := [], alts := [], laidByText := true, laidKinds := [.data, .data, .data], laidTests := true, laidLooks := .later }
def TermItemsUptoCardSaid : Prop := Claim7.holds Tryd.pinned (.plain (OpenSpec.upto termItemsSpec)) termItemsUptoCard

/-- THE SECOND FORM's CARD OF 'riparianlaw01.TermGround'. -/
def termGroundUptoCard : Claim7 := { stood := { row := termGroundUptoRow, standIns := [], harness := (true, "51c38beceff14adb71a30a7da4936e16795b3feae4044dc98920393cb8b2f53a"), looks := false }, kinds := [], alts := [], laidByText := true, laidKinds := [.data, .data, .data], laidTests := true, laidLooks := .later }
def TermGroundUptoCardSaid : Prop := Claim7.holds Tryd.pinned (.plain (OpenSpec.upto termGroundSpec)) termGroundUptoCard
end Rows
end Go.Proofs.YtdigiaigbcfccaaDoor
