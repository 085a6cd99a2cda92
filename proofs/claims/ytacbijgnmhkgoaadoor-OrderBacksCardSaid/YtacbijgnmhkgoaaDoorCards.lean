/-
  DERIVED. GIVEN WITH THE SEED: THE CARDS: each row of YtacbijgnmhkgoaaDoorRows.lean that lists a variable, with what it lists TIED to the program's text (the seventh form; the later family's looks); each row that meets fmt, with fmt's text TOLD by the authors' own Lean function (tested against real Go, not proved from fmt's source: count such statements apart). THE CARD IS WHAT COUNTS. Prove the row's statement (the work); the ties are given (YtacbijgnmhkgoaaDoorTie.lean); close each card by the builder's one call (the guide's Derived/Test/ToyasCard.lean, 'card_holds'). Laid BY PROGRAM, IN A SANDBOX (cutbox-door.mjs). By AI agents, Wed Nov 11 2026. No macro, syntax, notation, axiom, sorry.
-/
import Derived.Test.YtacbijgnmhkgoaaDoorRows
import GoSem.ClaimSeven
namespace Go.Proofs.YtacbijgnmhkgoaaDoor
namespace Rows

/-- THE TIED CARD OF 'taluslaw05.OrderTells'. -/
def orderTellsCard : Claim7 := { stood := { row := orderTellsRow, standIns := [], harness := (true, "70d8f97155fdc47402997fa73272972673ae36c956499f6ed96f68adafc9e95e"), looks := true }, kinds := [], alts := [], laidByText := true, laidKinds := [.data, .data, .data], laidTests := true, laidLooks := .later }
def OrderTellsCardSaid : Prop := Claim7.holds Tryd.pinned (.plain (OpenSpec.ofChange orderTellsSpec)) orderTellsCard

/-- THE TIED CARD OF 'taluslaw05.OrderBacks'. -/
def orderBacksCard : Claim7 := { stood := { row := orderBacksRow, standIns := [], harness := (true, "70d8f97155fdc47402997fa73272972673ae36c956499f6ed96f68adafc9e95e"), looks := true }, kinds := [], alts := [], laidByText := true, laidKinds := [.data, .data, .data, .sentinel, .sentinel], laidTests := true, laidLooks := .later }
def OrderBacksCardSaid : Prop := Claim7.holds Tryd.pinned (.plain (OpenSpec.ofChange orderBacksSpec)) orderBacksCard

/-- THE TIED CARD OF 'taluslaw05.OrderFloats'. -/
def orderFloatsCard : Claim7 := { stood := { row := orderFloatsRow, standIns := [], harness := (true, "70d8f97155fdc47402997fa73272972673ae36c956499f6ed96f68adafc9e95e"), looks := true }, kinds := [], alts := [], laidByText := true, laidKinds := [.data, .data, .data], laidTests := true, laidLooks := .later }
def OrderFloatsCardSaid : Prop := Claim7.holds Tryd.pinned (.plain (OpenSpec.ofChange orderFloatsSpec)) orderFloatsCard

/-- THE TIED CARD OF 'taluslaw05.OrderKeys'. -/
def orderKeysCard : Claim7 := { stood := { row := orderKeysRow, standIns := [], harness := (true, "70d8f97155fdc47402997fa73272972673ae36c956499f6ed96f68adafc9e95e"), looks := true }, kinds := [], alts := [], laidByText := true, laidKinds := [.data, .data, .data, .sentinel, .sentinel], laidTests := true, laidLooks := .later }
def OrderKeysCardSaid : Prop := Claim7.holds Tryd.pinned (.plain (OpenSpec.ofChange orderKeysSpec)) orderKeysCard

/-- THE TIED CARD OF 'taluslaw05.OrderSteps'. -/
def orderStepsCard : Claim7 := { stood := { row := orderStepsRow, standIns := [], harness := (true, "70d8f97155fdc47402997fa73272972673ae36c956499f6ed96f68adafc9e95e"), looks := true }, kinds := [], alts := [], laidByText := true, laidKinds := [.data, .data, .data], laidTests := true, laidLooks := .later }
def OrderStepsCardSaid : Prop := Claim7.holds Tryd.pinned (.plain (OpenSpec.ofChange orderStepsSpec)) orderStepsCard

/-- THE SECOND FORM's CARD OF 'taluslaw05.OrderTells'. -/
def orderTellsUptoCard : Claim7 := { stood := { row := orderTellsUptoRow, standIns := [], harness := (true, "70d8f97155fdc47402997fa73272972673ae36c956499f6ed96f68adafc9e95e"), looks := true }, kinds := [], alts := [], laidByText := true, laidKinds := [.data, .data, .data], laidTests := true, laidLooks := .later }
def OrderTellsUptoCardSaid : Prop := Claim7.holds Tryd.pinned (.plain (OpenSpec.upto orderTellsSpec)) orderTellsUptoCard

/-- THE SECOND FORM's CARD OF 'taluslaw05.OrderBacks'. -/
def orderBacksUptoCard : Claim7 := { stood := { row := orderBacksUptoRow, standIns := [], harness := (true, "70d8f97155fdc47402997fa73272972673ae36c956499f6ed96f68adafc9e95e"), looks := true }, kinds := [], alts := [], laidByText := true, laidKinds := [.data, .data, .data, .sentinel, .sentinel], laidTests := true, laidLooks := .later }
def OrderBacksUptoCardSaid : Prop := Claim7.holds Tryd.pinned (.plain (OpenSpec.upto orderBacksSpec)) orderBacksUptoCard

/-- THE SECOND FORM's CARD OF 'taluslaw05.OrderFloats'. -/
def orderFloatsUptoCard : Claim7 := { stood := { row := orderFloatsUptoRow, standIns := [], harness := (true, "70d8f97155fdc47402997fa73272972673ae36c956499f6ed96f68adafc9e95e"), looks := true }, kinds := [], alts := [], laidByText := true, laidKinds := [.data, .data, .data], laidTests := true, laidLooks := .later }
def OrderFloatsUptoCardSaid : Prop := Claim7.holds Tryd.pinned (.plain (OpenSpec.upto orderFloatsSpec)) orderFloatsUptoCard

/-- THE SECOND FORM's CARD OF 'taluslaw05.OrderKeys'. -/
def orderKeysUptoCard : Claim7 := { stood := { row := orderKeysUptoRow, standIns := [], harness := (true, "70d8f97155fdc47402997fa73272972673ae36c956499f6ed96f68adafc9e95e"), looks := true }, kinds := [], alts := [], laidByText := true, laidKinds := [.data, .data, .data, .sentinel, .sentinel], laidTests := true, laidLooks := .later }
def OrderKeysUptoCardSaid : Prop := Claim7.holds Tryd.pinned (.plain (OpenSpec.upto orderKeysSpec)) orderKeysUptoCard

/-- THE SECOND FORM's CARD OF 'taluslaw05.OrderSteps'. -/
def orderStepsUptoCard : Claim7 := { stood := { row := orderStepsUptoRow, standIns := [], harness := (true, "70d8f97155fdc47402997fa73272972673ae36c956499f6ed96f68adafc9e95e"), looks := true }, kinds := [], alts := [], laidByText := true, laidKinds := [.data, .data, .data], laidTests := true, laidLooks := .later }
def OrderStepsUptoCardSaid : Prop := Claim7.holds Tryd.pinned (.plain (OpenSpec.upto orderStepsSpec)) orderStepsUptoCard
end Rows
end Go.Proofs.YtacbijgnmhkgoaaDoor
