/-
  DERIVED. GIVEN WITH THE SEED: THE CARDS: each row of YtkjdilhhdphjgaaGreatDoorRows.lean that lists a variable, with what it lists TIED to the program's text (the seventh form; the later family's looks); each row that meets fmt, with fmt's text TOLD by the authors' own Lean function (tested against real Go, not proved from fmt's source: count such statements apart). THE CARD IS WHAT COUNTS. Prove the row's statement (the work); the ties are given (YtkjdilhhdphjgaaGreatDoorTie.lean); close each card by the builder's one call (the guide's Derived/Test/ToyasCard.lean, 'card_holds'). Laid BY PROGRAM, IN A SANDBOX (cutbox-door.mjs). By AI agents, Wed Nov 11 2026. No macro, syntax, notation, axiom, sorry.
-/
import Derived.Test.YtkjdilhhdphjgaaGreatDoorRows
import GoSem.ClaimSeven
namespace Go.Proofs.YtkjdilhhdphjgaaGreatDoor
namespace Rows

/-- THE TIED CARD OF 'taluslaw13.RecordBytes'. -/
def recordBytesCard : Claim7 := { stood := { row := recordBytesRow, standIns := [], harness := (true, "d1c12d947d1e9027cdb42a367a4cbadc24c521ca0394228dfac26358056981f3"), looks := true }, kinds := [], alts := [], laidByText := true, laidKinds := [.data], laidTests := true, laidLooks := .later }
def RecordBytesCardSaid : Prop := Claim7.holds Tryz.pinned (.plain (OpenSpec.ofChange recordBytesSpec)) recordBytesCard

/-- THE TIED CARD OF 'taluslaw13.RecordScans'. -/
def recordScansCard : Claim7 := { stood := { row := recordScansRow, standIns := [], harness := (true, "d1c12d947d1e9027cdb42a367a4cbadc24c521ca0394228dfac26358056981f3"), looks := true }, kinds := [], alts := [], laidByText := true, laidKinds := [.data], laidTests := true, laidLooks := .later }
def RecordScansCardSaid : Prop := Claim7.holds Tryz.pinned (.plain (OpenSpec.ofChange recordScansSpec)) recordScansCard

/-- THE TIED CARD OF 'taluslaw12.SegmentBytes'. -/
def segmentBytesCard : Claim7 := { stood := { row := segmentBytesRow, standIns := [], harness := (true, "d1c12d947d1e9027cdb42a367a4cbadc24c521ca0394228dfac26358056981f3"), looks := true }, kinds := [], alts := [], laidByText := true, laidKinds := [.data], laidTests := true, laidLooks := .later }
def SegmentBytesCardSaid : Prop := Claim7.holds Tryz.pinned (.plain (OpenSpec.ofChange segmentBytesSpec)) segmentBytesCard

/-- THE TIED CARD OF 'taluslaw12.SegmentZones'. -/
def segmentZonesCard : Claim7 := { stood := { row := segmentZonesRow, standIns := [], harness := (true, "d1c12d947d1e9027cdb42a367a4cbadc24c521ca0394228dfac26358056981f3"), looks := true }, kinds := [], alts := [], laidByText := true, laidKinds := [.data], laidTests := true, laidLooks := .later }
def SegmentZonesCardSaid : Prop := Claim7.holds Tryz.pinned (.plain (OpenSpec.ofChange segmentZonesSpec)) segmentZonesCard

/-- THE TIED CARD OF 'taluslaw12.SegmentAlike'. -/
def segmentAlikeCard : Claim7 := { stood := { row := segmentAlikeRow, standIns := [], harness := (true, "d1c12d947d1e9027cdb42a367a4cbadc24c521ca0394228dfac26358056981f3"), looks := true }, kinds := [], alts := [], laidByText := true, laidKinds := [.data], laidTests := true, laidLooks := .later }
def SegmentAlikeCardSaid : Prop := Claim7.holds Tryz.pinned (.plain (OpenSpec.ofChange segmentAlikeSpec)) segmentAlikeCard

/-- THE SECOND FORM's CARD OF 'taluslaw13.RecordBytes'. -/
def recordBytesUptoCard : Claim7 := { stood := { row := recordBytesUptoRow, standIns := [], harness := (true, "d1c12d947d1e9027cdb42a367a4cbadc24c521ca0394228dfac26358056981f3"), looks := true }, kinds := [], alts := [], laidByText := true, laidKinds := [.data], laidTests := true, laidLooks := .later }
def RecordBytesUptoCardSaid : Prop := Claim7.holds Tryz.pinned (.plain (OpenSpec.upto recordBytesSpec)) recordBytesUptoCard

/-- THE SECOND FORM's CARD OF 'taluslaw13.RecordScans'. -/
def recordScansUptoCard : Claim7 := { stood := { row := recordScansUptoRow, standIns := [], harness := (true, "d1c12d947d1e9027cdb42a367a4cbadc24c521ca0394228dfac26358056981f3"), looks := true }, kinds := [], alts := [], laidByText := true, laidKinds := [.data], laidTests := true, laidLooks := .later }
def RecordScansUptoCardSaid : Prop := Claim7.holds Tryz.pinned (.plain (OpenSpec.upto recordScansSpec)) recordScansUptoCard

/-- THE SECOND FORM's CARD OF 'taluslaw12.SegmentBytes'. -/
def segmentBytesUptoCard : Claim7 := { stood := { row := segmentBytesUptoRow, standIns := [], harness := (true, "d1c12d947d1e9027cdb42a367a4cbadc24c521ca0394228dfac26358056981f3"), looks := true }, kinds := [], alts := [], laidByText := true, laidKinds := [.data], laidTests := true, laidLooks := .later }
def SegmentBytesUptoCardSaid : Prop := Claim7.holds Tryz.pinned (.plain (OpenSpec.upto segmentBytesSpec)) segmentBytesUptoCard

/-- THE SECOND FORM's CARD OF 'taluslaw12.SegmentZones'. -/
def segmentZonesUptoCard : Claim7 := { stood := { row := segmentZonesUptoRow, standIns := [], harness := (true, "d1c12d947d1e9027cdb42a367a4cbadc24c521ca0394228dfac26358056981f3"), looks := true }, kinds := [], alts := [], laidByText := true, laidKinds := [.data], laidTests := true, laidLooks := .later }
def SegmentZonesUptoCardSaid : Prop := Claim7.holds Tryz.pinned (.plain (OpenSpec.upto segmentZonesSpec)) segmentZonesUptoCard

/-- THE SECOND FORM's CARD OF 'taluslaw12.SegmentAlike'. -/
def segmentAlikeUptoCard : Claim7 := { stood := { row := segmentAlikeUptoRow, standIns := [], harness := (true, "d1c12d947d1e9027cdb42a367a4cbadc24c521ca0394228dfac26358056981f3"), looks := true }, kinds := [], alts := [], laidByText := true, laidKinds := [.data], laidTests := true, laidLooks := .later }
def SegmentAlikeUptoCardSaid : Prop := Claim7.holds Tryz.pinned (.plain (OpenSpec.upto segmentAlikeSpec)) segmentAlikeUptoCard
end Rows
end Go.Proofs.YtkjdilhhdphjgaaGreatDoor
