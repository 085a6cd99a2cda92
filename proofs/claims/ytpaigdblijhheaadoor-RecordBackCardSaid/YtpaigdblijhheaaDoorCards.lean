/-
  DERIVED. GIVEN WITH THE SEED: THE CARDS: each row of YtpaigdblijhheaaDoorRows.lean that lists a variable, with what it lists TIED to the program's text (the seventh form; the later family's looks); each row that meets fmt, with fmt's text TOLD by the authors' own Lean function (tested against real Go, not proved from fmt's source: count such statements apart). THE CARD IS WHAT COUNTS. Prove the row's statement (the work); the ties are given (YtpaigdblijhheaaDoorTie.lean); close each card by the builder's one call (the guide's Derived/Test/ToyasCard.lean, 'card_holds'). Laid BY PROGRAM, IN A SANDBOX (cutbox-door.mjs). By AI agents, Wed Nov 11 2026. No macro, syntax, notation, axiom, sorry.
-/
import Derived.Test.YtpaigdblijhheaaDoorRows
import GoSem.ClaimSeven
namespace Go.Proofs.YtpaigdblijhheaaDoor
namespace Rows

/-- THE TIED CARD OF 'taluslaw13.RecordCuts'. -/
def recordCutsCard : Claim7 := { stood := { row := recordCutsRow, standIns := [], harness := (true, "55bad16314259e5d16c63e4137a6ac8515dd09462f2420e99ea4abc947aa0c57"), looks := true }, kinds := [], alts := [], laidByText := true, laidKinds := [.data], laidTests := true, laidLooks := .later }
def RecordCutsCardSaid : Prop := Claim7.holds Tryd.pinned (.plain (OpenSpec.ofChange recordCutsSpec)) recordCutsCard

/-- THE TIED CARD OF 'taluslaw13.RecordBack'. -/
def recordBackCard : Claim7 := { stood := { row := recordBackRow, standIns := [], harness := (true, "55bad16314259e5d16c63e4137a6ac8515dd09462f2420e99ea4abc947aa0c57"), looks := true }, kinds := [], alts := [], laidByText := true, laidKinds := [.data], laidTests := true, laidLooks := .later }
def RecordBackCardSaid : Prop := Claim7.holds Tryd.pinned (.plain (OpenSpec.ofChange recordBackSpec)) recordBackCard

/-- THE TIED CARD OF 'taluslaw13.RecordNext'. -/
def recordNextCard : Claim7 := { stood := { row := recordNextRow, standIns := [], harness := (true, "55bad16314259e5d16c63e4137a6ac8515dd09462f2420e99ea4abc947aa0c57"), looks := true }, kinds := [], alts := [], laidByText := true, laidKinds := [.data], laidTests := true, laidLooks := .later }
def RecordNextCardSaid : Prop := Claim7.holds Tryd.pinned (.plain (OpenSpec.ofChange recordNextSpec)) recordNextCard

/-- THE SECOND FORM's CARD OF 'taluslaw13.RecordCuts'. -/
def recordCutsUptoCard : Claim7 := { stood := { row := recordCutsUptoRow, standIns := [], harness := (true, "55bad16314259e5d16c63e4137a6ac8515dd09462f2420e99ea4abc947aa0c57"), looks := true }, kinds := [], alts := [], laidByText := true, laidKinds := [.data], laidTests := true, laidLooks := .later }
def RecordCutsUptoCardSaid : Prop := Claim7.holds Tryd.pinned (.plain (OpenSpec.upto recordCutsSpec)) recordCutsUptoCard

/-- THE SECOND FORM's CARD OF 'taluslaw13.RecordBack'. -/
def recordBackUptoCard : Claim7 := { stood := { row := recordBackUptoRow, standIns := [], harness := (true, "55bad16314259e5d16c63e4137a6ac8515dd09462f2420e99ea4abc947aa0c57"), looks := true }, kinds := [], alts := [], laidByText := true, laidKinds := [.data], laidTests := true, laidLooks := .later }
def RecordBackUptoCardSaid : Prop := Claim7.holds Tryd.pinned (.plain (OpenSpec.upto recordBackSpec)) recordBackUptoCard

/-- THE SECOND FORM's CARD OF 'taluslaw13.RecordNext'. -/
def recordNextUptoCard : Claim7 := { stood := { row := recordNextUptoRow, standIns := [], harness := (true, "55bad16314259e5d16c63e4137a6ac8515dd09462f2420e99ea4abc947aa0c57"), looks := true }, kinds := [], alts := [], laidByText := true, laidKinds := [.data], laidTests := true, laidLooks := .later }
def RecordNextUptoCardSaid : Prop := Claim7.holds Tryd.pinned (.plain (OpenSpec.upto recordNextSpec)) recordNextUptoCard
end Rows
end Go.Proofs.YtpaigdblijhheaaDoor
