/-
  DERIVED. GIVEN WITH THE SEED: THE PROGRAM's TIES (one call each: nine closed facts by the kernel) AND EACH ROW's TIE, after the 31st guide's Derived/Test/Toyas{Tie, Card}.lean. No idea stands in it: it is a product of the set-up. Laid BY PROGRAM, IN A SANDBOX (cutbox-door.mjs). By AI agents, Wed Nov 11 2026. No macro, syntax, notation, axiom, sorry.
-/
import Derived.Test.YtokfiflflcfidabDoorRows
import Derived.LaidByTextLater
import Derived.SevenTiedAt
import Derived.LaidSub
import Derived.LaidOnce
namespace Go.Proofs.YtokfiflflcfidabDoor
open Go
set_option maxRecDepth 100000
theorem seatTie1 : Tryd.prog.laidByTextLater [("litmus/litmus.edgeNames", Rows.laid_litmus_litmus_edgeNames), ("litmus/litmusref.names", Rows.laid_litmus_litmusref_names), ("litmus/litmusref.starts", Rows.laid_litmus_litmusref_starts), ("litmus/litmusref.ends", Rows.laid_litmus_litmusref_ends)] [.data, .data, .data, .data] true :=
  Program.laidByTextLater_by_one 29 8 15 (by kernel_rfl) (by kernel_rfl) (by kernel_rfl) (by kernel_rfl) (by kernel_rfl) (by kernel_rfl) (fun _ _ => by kernel_rfl)
theorem noOwnUnsafe : Tryd.pinned.checked.prog.headLifts.contains "ownunsafe" = false := by kernel_rfl
theorem tie : Tryd.prog.laidByTextLater [("litmus/litmus.edgeNames", Rows.laid_litmus_litmus_edgeNames), ("litmus/litmusref.names", Rows.laid_litmus_litmusref_names), ("litmus/litmusref.starts", Rows.laid_litmus_litmusref_starts), ("litmus/litmusref.ends", Rows.laid_litmus_litmusref_ends)] [.data, .data, .data, .data] true :=
  Program.laidByTextLater.sub seatTie1 ["litmus/litmus.edgeNames", "litmus/litmusref.names", "litmus/litmusref.starts", "litmus/litmusref.ends"] (by kernel_rfl) (by kernel_rfl)
theorem labels_row_tie : Rows.labelsRow.laidByTextAt .later Tryd.pinned [.data, .data, .data, .data] true :=
  OpenClaim.laidByTextAt_later rfl rfl tie noOwnUnsafe
theorem never_row_tie : Rows.neverRow.laidByTextAt .later Tryd.pinned [.data, .data, .data, .data] true :=
  OpenClaim.laidByTextAt_later rfl rfl tie noOwnUnsafe
theorem forbids_row_tie : Rows.forbidsRow.laidByTextAt .later Tryd.pinned [.data, .data, .data, .data] true :=
  OpenClaim.laidByTextAt_later rfl rfl tie noOwnUnsafe
theorem shows_row_tie : Rows.showsRow.laidByTextAt .later Tryd.pinned [.data, .data, .data, .data] true :=
  OpenClaim.laidByTextAt_later rfl rfl tie noOwnUnsafe
theorem firm_row_tie : Rows.firmRow.laidByTextAt .later Tryd.pinned [.data, .data, .data, .data] true :=
  OpenClaim.laidByTextAt_later rfl rfl tie noOwnUnsafe
theorem tie2 : Tryd.prog.laidByTextLater [("litmus/litmus.edgeNames", Rows.laid_litmus_litmus_edgeNames), ("litmus/litmusref.names", Rows.laid_litmus_litmusref_names)] [.data, .data] true :=
  Program.laidByTextLater.sub seatTie1 ["litmus/litmus.edgeNames", "litmus/litmusref.names"] (by kernel_rfl) (by kernel_rfl)
theorem same_row_tie : Rows.sameRow.laidByTextAt .later Tryd.pinned [.data, .data] true :=
  OpenClaim.laidByTextAt_later rfl rfl tie2 noOwnUnsafe
theorem labelsUpto_row_tie : Rows.labelsUptoRow.laidByTextAt .later Tryd.pinned [.data, .data, .data, .data] true :=
  OpenClaim.laidByTextAt_later rfl rfl tie noOwnUnsafe
theorem neverUpto_row_tie : Rows.neverUptoRow.laidByTextAt .later Tryd.pinned [.data, .data, .data, .data] true :=
  OpenClaim.laidByTextAt_later rfl rfl tie noOwnUnsafe
theorem forbidsUpto_row_tie : Rows.forbidsUptoRow.laidByTextAt .later Tryd.pinned [.data, .data, .data, .data] true :=
  OpenClaim.laidByTextAt_later rfl rfl tie noOwnUnsafe
theorem showsUpto_row_tie : Rows.showsUptoRow.laidByTextAt .later Tryd.pinned [.data, .data, .data, .data] true :=
  OpenClaim.laidByTextAt_later rfl rfl tie noOwnUnsafe
theorem firmUpto_row_tie : Rows.firmUptoRow.laidByTextAt .later Tryd.pinned [.data, .data, .data, .data] true :=
  OpenClaim.laidByTextAt_later rfl rfl tie noOwnUnsafe
theorem sameUpto_row_tie : Rows.sameUptoRow.laidByTextAt .later Tryd.pinned [.data, .data] true :=
  OpenClaim.laidByTextAt_later rfl rfl tie2 noOwnUnsafe
end Go.Proofs.YtokfiflflcfidabDoor
