/-
  DERIVED. GIVEN WITH THE SEED: THE CARDS: each row of YtokfiflflcfidabDoorRows.lean that lists a variable, with what it lists TIED to the program's text (the seventh form; the later family's looks); each row that meets fmt, with fmt's text TOLD by the authors' own Lean function (tested against real Go, not proved from fmt's source: count such statements apart). THE CARD IS WHAT COUNTS. Prove the row's statement (the work); the ties are given (YtokfiflflcfidabDoorTie.lean); close each card by the builder's one call (the guide's Derived/Test/ToyasCard.lean, 'card_holds'). Laid BY PROGRAM, IN A SANDBOX (cutbox-door.mjs). By AI agents, Wed Nov 11 2026. No macro, syntax, notation, axiom, sorry.
-/
import Derived.Test.YtokfiflflcfidabDoorRows
import GoSem.ClaimSeven
namespace Go.Proofs.YtokfiflflcfidabDoor
namespace Rows

/-- THE TIED CARD OF 'litmuslaw.Labels'. -/
def labelsCard : Claim7 := { stood := { row := labelsRow, standIns := [], harness := (true, "2fec0b667d845921474d27423e015d6adc89790cd446fa75352f0f239549d410"), looks := false }, kinds := [], alts := [], laidByText := true, laidKinds := [.data, .data, .data, .data], laidTests := true, laidLooks := .later }
def LabelsCardSaid : Prop := Claim7.holds Tryd.pinned (.plain (OpenSpec.ofChange labelsSpec)) labelsCard

/-- THE TIED CARD OF 'litmuslaw.Never'. -/
def neverCard : Claim7 := { stood := { row := neverRow, standIns := [], harness := (true, "2fec0b667d845921474d27423e015d6adc89790cd446fa75352f0f239549d410"), looks := false }, kinds := [], alts := [], laidByText := true, laidKinds := [.data, .data, .data, .data], laidTests := true, laidLooks := .later }
def NeverCardSaid : Prop := Claim7.holds Tryd.pinned (.plain (OpenSpec.ofChange neverSpec)) neverCard

/-- THE TIED CARD OF 'litmuslaw.Forbids'. -/
def forbidsCard : Claim7 := { stood := { row := forbidsRow, standIns := [], harness := (true, "2fec0b667d845921474d27423e015d6adc89790cd446fa75352f0f239549d410"), looks := false }, kinds := [], alts := [], laidByText := true, laidKinds := [.data, .data, .data, .data], laidTests := true, laidLooks := .later }
def ForbidsCardSaid : Prop := Claim7.holds Tryd.pinned (.plain (OpenSpec.ofChange forbidsSpec)) forbidsCard

/-- THE TIED CARD OF 'litmuslaw.Shows'. -/
def showsCard : Claim7 := { stood := { row := showsRow, standIns := [], harness := (true, "2fec0b667d845921474d27423e015d6adc89790cd446fa75352f0f239549d410"), looks := false }, kinds := [], alts := [], laidByText := true, laidKinds := [.data, .data, .data, .data], laidTests := true, laidLooks := .later }
def ShowsCardSaid : Prop := Claim7.holds Tryd.pinned (.plain (OpenSpec.ofChange showsSpec)) showsCard

/-- THE TIED CARD OF 'litmuslaw.Firm'. -/
def firmCard : Claim7 := { stood := { row := firmRow, standIns := [], harness := (true, "2fec0b667d845921474d27423e015d6adc89790cd446fa75352f0f239549d410"), looks := false }, kinds := [], alts := [], laidByText := true, laidKinds := [.data, .data, .data, .data], laidTests := true, laidLooks := .later }
def FirmCardSaid : Prop := Claim7.holds Tryd.pinned (.plain (OpenSpec.ofChange firmSpec)) firmCard

/-- THE TIED CARD OF 'litmuslaw.Same'. -/
def sameCard : Claim7 := { stood := { row := sameRow, standIns := [], harness := (true, "2fec0b667d845921474d27423e015d6adc89790cd446fa75352f0f239549d410"), looks := false }, kinds := [], alts := [], laidByText := true, laidKinds := [.data, .data], laidTests := true, laidLooks := .later }
def SameCardSaid : Prop := Claim7.holds Tryd.pinned (.plain (OpenSpec.ofChange sameSpec)) sameCard

/-- THE SECOND FORM's CARD OF 'litmuslaw.Labels'. -/
def labelsUptoCard : Claim7 := { stood := { row := labelsUptoRow, standIns := [], harness := (true, "2fec0b667d845921474d27423e015d6adc89790cd446fa75352f0f239549d410"), looks := false }, kinds := [], alts := [], laidByText := true, laidKinds := [.data, .data, .data, .data], laidTests := true, laidLooks := .later }
def LabelsUptoCardSaid : Prop := Claim7.holds Tryd.pinned (.plain (OpenSpec.upto labelsSpec)) labelsUptoCard

/-- THE SECOND FORM's CARD OF 'litmuslaw.Never'. -/
def neverUptoCard : Claim7 := { stood := { row := neverUptoRow, standIns := [], harness := (true, "2fec0b667d845921474d27423e015d6adc89790cd446fa75352f0f239549d410"), looks := false }, kinds := [], alts := [], laidByText := true, laidKinds := [.data, .data, .data, .data], laidTests := true, laidLooks := .later }
def NeverUptoCardSaid : Prop := Claim7.holds Tryd.pinned (.plain (OpenSpec.upto neverSpec)) neverUptoCard

/-- THE SECOND FORM's CARD OF 'litmuslaw.Forbids'. -/
def forbidsUptoCard : Claim7 := { stood := { row := forbidsUptoRow, standIns := [], harness := (true, "2fec0b667d845921474d27423e015d6adc89790cd446fa75352f0f239549d410"), looks := false }, kinds := [], alts := [], laidByText := true, laidKinds := [.data, .data, .data, .data], laidTests := true, laidLooks := .later }
def ForbidsUptoCardSaid : Prop := Claim7.holds Tryd.pinned (.plain (OpenSpec.upto forbidsSpec)) forbidsUptoCard

/-- THE SECOND FORM's CARD OF 'litmuslaw.Shows'. -/
def showsUptoCard : Claim7 := { stood := { row := showsUptoRow, standIns := [], harness := (true, "2fec0b667d845921474d27423e015d6adc89790cd446fa75352f0f239549d410"), looks := false }, kinds := [], alts := [], laidByText := true, laidKinds := [.data, .data, .data, .data], laidTests := true, laidLooks := .later }
def ShowsUptoCardSaid : Prop := Claim7.holds Tryd.pinned (.plain (OpenSpec.upto showsSpec)) showsUptoCard

/-- THE SECOND FORM's CARD OF 'litmuslaw.Firm'. -/
def firmUptoCard : Claim7 := { stood := { row := firmUptoRow, standIns := [], harness := (true, "2fec0b667d845921474d27423e015d6adc89790cd446fa75352f0f239549d410"), looks := false }, kinds := [], alts := [], laidByText := true, laidKinds := [.data, .data, .data, .data], laidTests := true, laidLooks := .later }
def FirmUptoCardSaid : Prop := Claim7.holds Tryd.pinned (.plain (OpenSpec.upto firmSpec)) firmUptoCard

/-- THE SECOND FORM's CARD OF 'litmuslaw.Same'. -/
def sameUptoCard : Claim7 := { stood := { row := sameUptoRow, standIns := [], harness := (true, "2fec0b667d845921474d27423e015d6adc89790cd446fa75352f0f239549d410"), looks := false }, kinds := [], alts := [], laidByText := true, laidKinds := [.data, .data], laidTests := true, laidLooks := .later }
def SameUptoCardSaid : Prop := Claim7.holds Tryd.pinned (.plain (OpenSpec.upto sameSpec)) sameUptoCard
end Rows
end Go.Proofs.YtokfiflflcfidabDoor
