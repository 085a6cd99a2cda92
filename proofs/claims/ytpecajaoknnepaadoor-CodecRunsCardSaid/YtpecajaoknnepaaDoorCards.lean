/-
  DERIVED. GIVEN WITH THE SEED: THE CARDS: each row of YtpecajaoknnepaaDoorRows.lean that lists a variable, with what it lists TIED to the program's text (the seventh form; the later family's looks); each row that meets fmt, with fmt's text TOLD by the authors' own Lean function (tested against real Go, not proved from fmt's source: count such statements apart). THE CARD IS WHAT COUNTS. Prove the row's statement (the work); the ties are given (YtpecajaoknnepaaDoorTie.lean); close each card by the builder's one call (the guide's Derived/Test/ToyasCard.lean, 'card_holds'). Laid BY PROGRAM, IN A SANDBOX (cutbox-door.mjs). By AI agents, Wed Nov 11 2026. No macro, syntax, notation, axiom, sorry.
-/
import Derived.Test.YtpecajaoknnepaaDoorRows
import GoSem.ClaimSeven
namespace Go.Proofs.YtpecajaoknnepaaDoor
namespace Rows

/-- THE TIED CARD OF 'taluslaw02.CodecNumbers'. -/
def codecNumbersCard : Claim7 := { stood := { row := codecNumbersRow, standIns := [], harness := (true, "e27d8586480ad6e75bc88f6ad081ff36bcb8de42495a509a1a373feb20c55a69"), looks := true }, kinds := [], alts := [], laidByText := true, laidKinds := [.data], laidTests := true, laidLooks := .later }
def CodecNumbersCardSaid : Prop := Claim7.holds Tryd.pinned (.plain (OpenSpec.ofChange codecNumbersSpec)) codecNumbersCard

/-- THE TIED CARD OF 'taluslaw02.CodecPacks'. -/
def codecPacksCard : Claim7 := { stood := { row := codecPacksRow, standIns := [], harness := (true, "e27d8586480ad6e75bc88f6ad081ff36bcb8de42495a509a1a373feb20c55a69"), looks := true }, kinds := [], alts := [], laidByText := true, laidKinds := [.data], laidTests := true, laidLooks := .later }
def CodecPacksCardSaid : Prop := Claim7.holds Tryd.pinned (.plain (OpenSpec.ofChange codecPacksSpec)) codecPacksCard

/-- THE TIED CARD OF 'taluslaw02.CodecRuns'. -/
def codecRunsCard : Claim7 := { stood := { row := codecRunsRow, standIns := [], harness := (true, "e27d8586480ad6e75bc88f6ad081ff36bcb8de42495a509a1a373feb20c55a69"), looks := true }, kinds := [], alts := [], laidByText := true, laidKinds := [.data], laidTests := true, laidLooks := .later }
def CodecRunsCardSaid : Prop := Claim7.holds Tryd.pinned (.plain (OpenSpec.ofChange codecRunsSpec)) codecRunsCard

/-- THE TIED CARD OF 'taluslaw02.CodecBack'. -/
def codecBackCard : Claim7 := { stood := { row := codecBackRow, standIns := [], harness := (true, "e27d8586480ad6e75bc88f6ad081ff36bcb8de42495a509a1a373feb20c55a69"), looks := true }, kinds := [], alts := [], laidByText := true, laidKinds := [.data], laidTests := true, laidLooks := .later }
def CodecBackCardSaid : Prop := Claim7.holds Tryd.pinned (.plain (OpenSpec.ofChange codecBackSpec)) codecBackCard

/-- THE TIED CARD OF 'taluslaw02.CodecTells'. -/
def codecTellsCard : Claim7 := { stood := { row := codecTellsRow, standIns := [], harness := (true, "e27d8586480ad6e75bc88f6ad081ff36bcb8de42495a509a1a373feb20c55a69"), looks := true }, kinds := [], alts := [], laidByText := true, laidKinds := [.data], laidTests := true, laidLooks := .later }
def CodecTellsCardSaid : Prop := Claim7.holds Tryd.pinned (.plain (OpenSpec.ofChange codecTellsSpec)) codecTellsCard

/-- THE TIED CARD OF 'taluslaw02.CodecShort'. -/
def codecShortCard : Claim7 := { stood := { row := codecShortRow, standIns := [], harness := (true, "e27d8586480ad6e75bc88f6ad081ff36bcb8de42495a509a1a373feb20c55a69"), looks := true }, kinds := [], alts := [], laidByText := true, laidKinds := [.data], laidTests := true, laidLooks := .later }
def CodecShortCardSaid : Prop := Claim7.holds Tryd.pinned (.plain (OpenSpec.ofChange codecShortSpec)) codecShortCard

/-- THE TIED CARD OF 'taluslaw02.CodecWidths'. -/
def codecWidthsCard : Claim7 := { stood := { row := codecWidthsRow, standIns := [], harness := (true, "e27d8586480ad6e75bc88f6ad081ff36bcb8de42495a509a1a373feb20c55a69"), looks := true }, kinds := [], alts := [], laidByText := true, laidKinds := [.data], laidTests := true, laidLooks := .later }
def CodecWidthsCardSaid : Prop := Claim7.holds Tryd.pinned (.plain (OpenSpec.ofChange codecWidthsSpec)) codecWidthsCard

/-- THE SECOND FORM's CARD OF 'taluslaw02.CodecNumbers'. -/
def codecNumbersUptoCard : Claim7 := { stood := { row := codecNumbersUptoRow, standIns := [], harness := (true, "e27d8586480ad6e75bc88f6ad081ff36bcb8de42495a509a1a373feb20c55a69"), looks := true }, kinds := [], alts := [], laidByText := true, laidKinds := [.data], laidTests := true, laidLooks := .later }
def CodecNumbersUptoCardSaid : Prop := Claim7.holds Tryd.pinned (.plain (OpenSpec.upto codecNumbersSpec)) codecNumbersUptoCard

/-- THE SECOND FORM's CARD OF 'taluslaw02.CodecPacks'. -/
def codecPacksUptoCard : Claim7 := { stood := { row := codecPacksUptoRow, standIns := [], harness := (true, "e27d8586480ad6e75bc88f6ad081ff36bcb8de42495a509a1a373feb20c55a69"), looks := true }, kinds := [], alts := [], laidByText := true, laidKinds := [.data], laidTests := true, laidLooks := .later }
def CodecPacksUptoCardSaid : Prop := Claim7.holds Tryd.pinned (.plain (OpenSpec.upto codecPacksSpec)) codecPacksUptoCard

/-- THE SECOND FORM's CARD OF 'taluslaw02.CodecRuns'. -/
def codecRunsUptoCard : Claim7 := { stood := { row := codecRunsUptoRow, standIns := [], harness := (true, "e27d8586480ad6e75bc88f6ad081ff36bcb8de42495a509a1a373feb20c55a69"), looks := true }, kinds := [], alts := [], laidByText := true, laidKinds := [.data], laidTests := true, laidLooks := .later }
def CodecRunsUptoCardSaid : Prop := Claim7.holds Tryd.pinned (.plain (OpenSpec.upto codecRunsSpec)) codecRunsUptoCard

/-- THE SECOND FORM's CARD OF 'taluslaw02.CodecBack'. -/
def codecBackUptoCard : Claim7 := { stood := { row := codecBackUptoRow, standIns := [], harness := (true, "e27d8586480ad6e75bc88f6ad081ff36bcb8de42495a509a1a373feb20c55a69"), looks := true }, kinds := [], alts := [], laidByText := true, laidKinds := [.data], laidTests := true, laidLooks := .later }
def CodecBackUptoCardSaid : Prop := Claim7.holds Tryd.pinned (.plain (OpenSpec.upto codecBackSpec)) codecBackUptoCard

/-- THE SECOND FORM's CARD OF 'taluslaw02.CodecTells'. -/
def codecTellsUptoCard : Claim7 := { stood := { row := codecTellsUptoRow, standIns := [], harness := (true, "e27d8586480ad6e75bc88f6ad081ff36bcb8de42495a509a1a373feb20c55a69"), looks := true }, kinds := [], alts := [], laidByText := true, laidKinds := [.data], laidTests := true, laidLooks := .later }
def CodecTellsUptoCardSaid : Prop := Claim7.holds Tryd.pinned (.plain (OpenSpec.upto codecTellsSpec)) codecTellsUptoCard

/-- THE SECOND FORM's CARD OF 'taluslaw02.CodecShort'. -/
def codecShortUptoCard : Claim7 := { stood := { row := codecShortUptoRow, standIns := [], harness := (true, "e27d8586480ad6e75bc88f6ad081ff36bcb8de42495a509a1a373feb20c55a69"), looks := true }, kinds := [], alts := [], laidByText := true, laidKinds := [.data], laidTests := true, laidLooks := .later }
def CodecShortUptoCardSaid : Prop := Claim7.holds Tryd.pinned (.plain (OpenSpec.upto codecShortSpec)) codecShortUptoCard

/-- THE SECOND FORM's CARD OF 'taluslaw02.CodecWidths'. -/
def codecWidthsUptoCard : Claim7 := { stood := { row := codecWidthsUptoRow, standIns := [], harness := (true, "e27d8586480ad6e75bc88f6ad081ff36bcb8de42495a509a1a373feb20c55a69"), looks := true }, kinds := [], alts := [], laidByText := true, laidKinds := [.data], laidTests := true, laidLooks := .later }
def CodecWidthsUptoCardSaid : Prop := Claim7.holds Tryd.pinned (.plain (OpenSpec.upto codecWidthsSpec)) codecWidthsUptoCard
end Rows
end Go.Proofs.YtpecajaoknnepaaDoor
