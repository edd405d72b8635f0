/-
  DERIVED. GIVEN WITH THE SEED: THE CARDS: each row of YtmfnpipmbpnfbaaGreatDoorRows.lean that lists a variable, with what it lists TIED to the program's text (the seventh form; the later family's looks); each row that meets fmt, with fmt's text TOLD by the authors' own Lean function (tested against real Go, not proved from fmt's source: count such statements apart). THE CARD IS WHAT COUNTS. Prove the row's statement (the work); the ties are given (YtmfnpipmbpnfbaaGreatDoorTie.lean); close each card by the builder's one call (the guide's Derived/Test/ToyasCard.lean, 'card_holds'). Laid BY PROGRAM, IN A SANDBOX (cutbox-door.mjs). By AI agents, Wed Nov 11 2026. No macro, syntax, notation, axiom, sorry.
-/
import Derived.Test.YtmfnpipmbpnfbaaGreatDoorRows
import GoSem.ClaimSeven
namespace Go.Proofs.YtmfnpipmbpnfbaaGreatDoor
namespace Rows

/-- THE TIED CARD OF 'diceboxlaw04.ModelFacts'. -/
def modelFactsCard : Claim7 := { stood := { row := modelFactsRow, standIns := [], harness := (true, "dfff1fb9519c4f619794c117a819336ae871600945ac6c980db29753eeda63e4"), looks := true }, kinds := [], alts := [], laidByText := true, laidKinds := [.data, .data, .data], laidTests := true, laidLooks := .later }
def ModelFactsCardSaid : Prop := Claim7.holds Tryz.pinned (.plain (OpenSpec.ofChange modelFactsSpec)) modelFactsCard

/-- THE TIED CARD OF 'diceboxlaw04.ModelFixes'. -/
def modelFixesCard : Claim7 := { stood := { row := modelFixesRow, standIns := [], harness := (true, "dfff1fb9519c4f619794c117a819336ae871600945ac6c980db29753eeda63e4"), looks := true }, kinds := [], alts := [], laidByText := true, laidKinds := [.data, .data, .data], laidTests := true, laidLooks := .later }
def ModelFixesCardSaid : Prop := Claim7.holds Tryz.pinned (.plain (OpenSpec.ofChange modelFixesSpec)) modelFixesCard

/-- THE TIED CARD OF 'diceboxlaw04.ModelCounts'. -/
def modelCountsCard : Claim7 := { stood := { row := modelCountsRow, standIns := [], harness := (true, "dfff1fb9519c4f619794c117a819336ae871600945ac6c980db29753eeda63e4"), looks := true }, kinds := [], alts := [], laidByText := true, laidKinds := [.data, .data, .data], laidTests := true, laidLooks := .later }
def ModelCountsCardSaid : Prop := Claim7.holds Tryz.pinned (.plain (OpenSpec.ofChange modelCountsSpec)) modelCountsCard

/-- THE TIED CARD OF 'diceboxlaw04.ModelRenames'. -/
def modelRenamesCard : Claim7 := { stood := { row := modelRenamesRow, standIns := [], harness := (true, "dfff1fb9519c4f619794c117a819336ae871600945ac6c980db29753eeda63e4"), looks := true }, kinds := [], alts := [], laidByText := true, laidKinds := [.data, .data, .data], laidTests := true, laidLooks := .later }
def ModelRenamesCardSaid : Prop := Claim7.holds Tryz.pinned (.plain (OpenSpec.ofChange modelRenamesSpec)) modelRenamesCard

/-- THE TIED CARD OF 'diceboxlaw04.ModelTexts'. -/
def modelTextsCard : Claim7 := { stood := { row := modelTextsRow, standIns := [], harness := (true, "dfff1fb9519c4f619794c117a819336ae871600945ac6c980db29753eeda63e4"), looks := true }, kinds := [], alts := [], laidByText := true, laidKinds := [.data, .data, .data, .data, .sentinel, .sentinel, .pinned], laidTests := true, laidLooks := .later }
def ModelTextsCardSaid : Prop := Claim7.holds Tryz.pinned (.plain (OpenSpec.ofChange modelTextsSpec)) modelTextsCard

/-- THE TIED CARD OF 'diceboxlaw04.ModelMeans'. -/
def modelMeansCard : Claim7 := { stood := { row := modelMeansRow, standIns := [], harness := (true, "dfff1fb9519c4f619794c117a819336ae871600945ac6c980db29753eeda63e4"), looks := true }, kinds := [], alts := [], laidByText := true, laidKinds := [.data, .data, .data], laidTests := true, laidLooks := .later }
def ModelMeansCardSaid : Prop := Claim7.holds Tryz.pinned (.plain (OpenSpec.ofChange modelMeansSpec)) modelMeansCard

/-- THE TIED CARD OF 'diceboxlaw04.ModelOwn'. -/
def modelOwnCard : Claim7 := { stood := { row := modelOwnRow, standIns := [], harness := (true, "dfff1fb9519c4f619794c117a819336ae871600945ac6c980db29753eeda63e4"), looks := true }, kinds := [], alts := [], laidByText := true, laidKinds := [.data, .data, .data, .data, .sentinel, .sentinel, .pinned], laidTests := true, laidLooks := .later }
def ModelOwnCardSaid : Prop := Claim7.holds Tryz.pinned (.plain (OpenSpec.ofChange modelOwnSpec)) modelOwnCard

/-- THE SECOND FORM's CARD OF 'diceboxlaw04.ModelFacts'. -/
def modelFactsUptoCard : Claim7 := { stood := { row := modelFactsUptoRow, standIns := [], harness := (true, "dfff1fb9519c4f619794c117a819336ae871600945ac6c980db29753eeda63e4"), looks := true }, kinds := [], alts := [], laidByText := true, laidKinds := [.data, .data, .data], laidTests := true, laidLooks := .later }
def ModelFactsUptoCardSaid : Prop := Claim7.holds Tryz.pinned (.plain (OpenSpec.upto modelFactsSpec)) modelFactsUptoCard

/-- THE SECOND FORM's CARD OF 'diceboxlaw04.ModelFixes'. -/
def modelFixesUptoCard : Claim7 := { stood := { row := modelFixesUptoRow, standIns := [], harness := (true, "dfff1fb9519c4f619794c117a819336ae871600945ac6c980db29753eeda63e4"), looks := true }, kinds := [], alts := [], laidByText := true, laidKinds := [.data, .data, .data], laidTests := true, laidLooks := .later }
def ModelFixesUptoCardSaid : Prop := Claim7.holds Tryz.pinned (.plain (OpenSpec.upto modelFixesSpec)) modelFixesUptoCard

/-- THE SECOND FORM's CARD OF 'diceboxlaw04.ModelCounts'. -/
def modelCountsUptoCard : Claim7 := { stood := { row := modelCountsUptoRow, standIns := [], harness := (true, "dfff1fb9519c4f619794c117a819336ae871600945ac6c980db29753eeda63e4"), looks := true }, kinds := [], alts := [], laidByText := true, laidKinds := [.data, .data, .data], laidTests := true, laidLooks := .later }
def ModelCountsUptoCardSaid : Prop := Claim7.holds Tryz.pinned (.plain (OpenSpec.upto modelCountsSpec)) modelCountsUptoCard

/-- THE SECOND FORM's CARD OF 'diceboxlaw04.ModelRenames'. -/
def modelRenamesUptoCard : Claim7 := { stood := { row := modelRenamesUptoRow, standIns := [], harness := (true, "dfff1fb9519c4f619794c117a819336ae871600945ac6c980db29753eeda63e4"), looks := true }, kinds := [], alts := [], laidByText := true, laidKinds := [.data, .data, .data], laidTests := true, laidLooks := .later }
def ModelRenamesUptoCardSaid : Prop := Claim7.holds Tryz.pinned (.plain (OpenSpec.upto modelRenamesSpec)) modelRenamesUptoCard

/-- THE SECOND FORM's CARD OF 'diceboxlaw04.ModelTexts'. -/
def modelTextsUptoCard : Claim7 := { stood := { row := modelTextsUptoRow, standIns := [], harness := (true, "dfff1fb9519c4f619794c117a819336ae871600945ac6c980db29753eeda63e4"), looks := true }, kinds := [], alts := [], laidByText := true, laidKinds := [.data, .data, .data, .data, .sentinel, .sentinel, .pinned], laidTests := true, laidLooks := .later }
def ModelTextsUptoCardSaid : Prop := Claim7.holds Tryz.pinned (.plain (OpenSpec.upto modelTextsSpec)) modelTextsUptoCard

/-- THE SECOND FORM's CARD OF 'diceboxlaw04.ModelMeans'. -/
def modelMeansUptoCard : Claim7 := { stood := { row := modelMeansUptoRow, standIns := [], harness := (true, "dfff1fb9519c4f619794c117a819336ae871600945ac6c980db29753eeda63e4"), looks := true }, kinds := [], alts := [], laidByText := true, laidKinds := [.data, .data, .data], laidTests := true, laidLooks := .later }
def ModelMeansUptoCardSaid : Prop := Claim7.holds Tryz.pinned (.plain (OpenSpec.upto modelMeansSpec)) modelMeansUptoCard

/-- THE SECOND FORM's CARD OF 'diceboxlaw04.ModelOwn'. -/
def modelOwnUptoCard : Claim7 := { stood := { row := modelOwnUptoRow, standIns := [], harness := (true, "dfff1fb9519c4f619794c117a819336ae871600945ac6c980db29753eeda63e4"), looks := true }, kinds := [], alts := [], laidByText := true, laidKinds := [.data, .data, .data, .data, .sentinel, .sentinel, .pinned], laidTests := true, laidLooks := .later }
def ModelOwnUptoCardSaid : Prop := Claim7.holds Tryz.pinned (.plain (OpenSpec.upto modelOwnSpec)) modelOwnUptoCard
end Rows
end Go.Proofs.YtmfnpipmbpnfbaaGreatDoor
