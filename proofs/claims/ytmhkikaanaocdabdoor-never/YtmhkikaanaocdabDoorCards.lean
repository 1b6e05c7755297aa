/-
  DERIVED. GIVEN WITH THE SEED: THE CARDS: each row of YtmhkikaanaocdabDoorRows.lean that lists a variable, with what it lists TIED to the program's text (the seventh form; the later family's looks); each row that meets fmt, with fmt's text TOLD by the authors' own Lean function (tested against real Go, not proved from fmt's source: count such statements apart). THE CARD IS WHAT COUNTS. Prove the row's statement (the work); the ties are given (YtmhkikaanaocdabDoorTie.lean); close each card by the builder's one call (the guide's Derived/Test/ToyasCard.lean, 'card_holds'). Laid BY PROGRAM, IN A SANDBOX (cutbox-door.mjs). By AI agents, Wed Nov 11 2026. No macro, syntax, notation, axiom, sorry.
-/
import Derived.Test.YtmhkikaanaocdabDoorRows
import GoSem.ClaimSeven
namespace Go.Proofs.YtmhkikaanaocdabDoor
namespace Rows

/-- THE TIED CARD OF 'litmuslaw.Never'. -/
def neverCard : Claim7 := { stood := { row := neverRow, standIns := [], harness := (true, "ed90d3c34762c38da690429b4bd2ac4c3dbedb2341e6d1304bcd2ad778d77f50"), looks := false }, kinds := [], alts := [], laidByText := true, laidKinds := [.data, .data, .data, .data], laidTests := true, laidLooks := .later }
def NeverCardSaid : Prop := Claim7.holds Tryd.pinned (.plain (OpenSpec.ofChange neverSpec)) neverCard

/-- THE TIED CARD OF 'litmuslaw.Forbids'. -/
def forbidsCard : Claim7 := { stood := { row := forbidsRow, standIns := [], harness := (true, "ed90d3c34762c38da690429b4bd2ac4c3dbedb2341e6d1304bcd2ad778d77f50"), looks := false }, kinds := [], alts := [], laidByText := true, laidKinds := [.data, .data, .data, .data], laidTests := true, laidLooks := .later }
def ForbidsCardSaid : Prop := Claim7.holds Tryd.pinned (.plain (OpenSpec.ofChange forbidsSpec)) forbidsCard

/-- THE TIED CARD OF 'litmuslaw.Firm'. -/
def firmCard : Claim7 := { stood := { row := firmRow, standIns := [], harness := (true, "ed90d3c34762c38da690429b4bd2ac4c3dbedb2341e6d1304bcd2ad778d77f50"), looks := false }, kinds := [], alts := [], laidByText := true, laidKinds := [.data, .data, .data], laidTests := true, laidLooks := .later }
def FirmCardSaid : Prop := Claim7.holds Tryd.pinned (.plain (OpenSpec.ofChange firmSpec)) firmCard

/-- THE TIED CARD OF 'litmuslaw.Same'. -/
def sameCard : Claim7 := { stood := { row := sameRow, standIns := [], harness := (true, "ed90d3c34762c38da690429b4bd2ac4c3dbedb2341e6d1304bcd2ad778d77f50"), looks := false }, kinds := [], alts := [], laidByText := true, laidKinds := [.data, .data], laidTests := true, laidLooks := .later }
def SameCardSaid : Prop := Claim7.holds Tryd.pinned (.plain (OpenSpec.ofChange sameSpec)) sameCard

/-- THE SECOND FORM's CARD OF 'litmuslaw.Never'. -/
def neverUptoCard : Claim7 := { stood := { row := neverUptoRow, standIns := [], harness := (true, "ed90d3c34762c38da690429b4bd2ac4c3dbedb2341e6d1304bcd2ad778d77f50"), looks := false }, kinds := [], alts := [], laidByText := true, laidKinds := [.data, .data, .data, .data], laidTests := true, laidLooks := .later }
def NeverUptoCardSaid : Prop := Claim7.holds Tryd.pinned (.plain (OpenSpec.upto neverSpec)) neverUptoCard

/-- THE SECOND FORM's CARD OF 'litmuslaw.Forbids'. -/
def forbidsUptoCard : Claim7 := { stood := { row := forbidsUptoRow, standIns := [], harness := (true, "ed90d3c34762c38da690429b4bd2ac4c3dbedb2341e6d1304bcd2ad778d77f50"), looks := false }, kinds := [], alts := [], laidByText := true, laidKinds := [.data, .data, .data, .data], laidTests := true, laidLooks := .later }
def ForbidsUptoCardSaid : Prop := Claim7.holds Tryd.pinned (.plain (OpenSpec.upto forbidsSpec)) forbidsUptoCard

/-- THE SECOND FORM's CARD OF 'litmuslaw.Firm'. -/
def firmUptoCard : Claim7 := { stood := { row := firmUptoRow, standIns := [], harness := (true, "ed90d3c34762c38da690429b4bd2ac4c3dbedb2341e6d1304bcd2ad778d77f50"), looks := false }, kinds := [], alts := [], laidByText := true, laidKinds := [.data, .data, .data], laidTests := true, laidLooks := .later }
def FirmUptoCardSaid : Prop := Claim7.holds Tryd.pinned (.plain (OpenSpec.upto firmSpec)) firmUptoCard

/-- THE SECOND FORM's CARD OF 'litmuslaw.Same'. -/
def sameUptoCard : Claim7 := { stood := { row := sameUptoRow, standIns := [], harness := (true, "ed90d3c34762c38da690429b4bd2ac4c3dbedb2341e6d1304bcd2ad778d77f50"), looks := false }, kinds := [], alts := [], laidByText := true, laidKinds := [.data, .data], laidTests := true, laidLooks := .later }
def SameUptoCardSaid : Prop := Claim7.holds Tryd.pinned (.plain (OpenSpec.upto sameSpec)) sameUptoCard
end Rows
end Go.Proofs.YtmhkikaanaocdabDoor
