/-
  DERIVED. GIVEN WITH THE SEED: THE CARDS: each row of YtokfiflflcfidaaDoorRows.lean that lists a variable, with what it lists TIED to the program's text (the seventh form; the later family's looks); each row that meets fmt, with fmt's text TOLD by the authors' own Lean function (tested against real Go, not proved from fmt's source: count such statements apart). THE CARD IS WHAT COUNTS. Prove the row's statement (the work); the ties are given (YtokfiflflcfidaaDoorTie.lean); close each card by the builder's one call (the guide's Derived/Test/ToyasCard.lean, 'card_holds'). Laid BY PROGRAM, IN A SANDBOX (cutbox-door.mjs). By AI agents, Wed Nov 11 2026. No macro, syntax, notation, axiom, sorry.
-/
import Derived.Test.YtokfiflflcfidaaDoorRows
import GoSem.ClaimSeven
namespace Go.Proofs.YtokfiflflcfidaaDoor
namespace Rows

/-- THE TIED CARD OF 'litmuslaw.Checks'. -/
def checksCard : Claim7 := { stood := { row := checksRow, standIns := [], harness := (true, "0d2dcd0076c2f88fc5502aacc9866f866d24bef19d59c333f7707cbd746d8e05"), looks := false }, kinds := [], alts := [], laidByText := true, laidKinds := [.data, .data, .data, .data], laidTests := true, laidLooks := .later }
def ChecksCardSaid : Prop := Claim7.holds Tryd.pinned (.plain (OpenSpec.ofChange checksSpec)) checksCard

/-- THE TIED CARD OF 'litmuslaw.Bases'. -/
def basesCard : Claim7 := { stood := { row := basesRow, standIns := [], harness := (true, "0d2dcd0076c2f88fc5502aacc9866f866d24bef19d59c333f7707cbd746d8e05"), looks := false }, kinds := [], alts := [], laidByText := true, laidKinds := [.data, .data, .data, .data], laidTests := true, laidLooks := .later }
def BasesCardSaid : Prop := Claim7.holds Tryd.pinned (.plain (OpenSpec.ofChange basesSpec)) basesCard

/-- THE TIED CARD OF 'litmuslaw.Itself'. -/
def itselfCard : Claim7 := { stood := { row := itselfRow, standIns := [], harness := (true, "0d2dcd0076c2f88fc5502aacc9866f866d24bef19d59c333f7707cbd746d8e05"), looks := false }, kinds := [], alts := [], laidByText := true, laidKinds := [.data], laidTests := true, laidLooks := .later }
def ItselfCardSaid : Prop := Claim7.holds Tryd.pinned (.plain (OpenSpec.ofChange itselfSpec)) itselfCard

/-- THE TIED CARD OF 'litmuslaw.Lists'. -/
def listsCard : Claim7 := { stood := { row := listsRow, standIns := [], harness := (true, "0d2dcd0076c2f88fc5502aacc9866f866d24bef19d59c333f7707cbd746d8e05"), looks := false }, kinds := [], alts := [], laidByText := true, laidKinds := [.data, .data, .data, .data], laidTests := true, laidLooks := .later }
def ListsCardSaid : Prop := Claim7.holds Tryd.pinned (.plain (OpenSpec.ofChange listsSpec)) listsCard

/-- THE TIED CARD OF 'litmuslaw.Listed'. -/
def listedCard : Claim7 := { stood := { row := listedRow, standIns := [], harness := (true, "0d2dcd0076c2f88fc5502aacc9866f866d24bef19d59c333f7707cbd746d8e05"), looks := false }, kinds := [], alts := [], laidByText := true, laidKinds := [.data, .data, .data, .data], laidTests := true, laidLooks := .later }
def ListedCardSaid : Prop := Claim7.holds Tryd.pinned (.plain (OpenSpec.ofChange listedSpec)) listedCard

/-- THE TIED CARD OF 'litmuslaw.Builds'. -/
def buildsCard : Claim7 := { stood := { row := buildsRow, standIns := [], harness := (true, "0d2dcd0076c2f88fc5502aacc9866f866d24bef19d59c333f7707cbd746d8e05"), looks := false }, kinds := [], alts := [], laidByText := true, laidKinds := [.data, .data, .data, .data], laidTests := true, laidLooks := .later }
def BuildsCardSaid : Prop := Claim7.holds Tryd.pinned (.plain (OpenSpec.ofChange buildsSpec)) buildsCard

/-- THE TIED CARD OF 'litmuslaw.Exact'. -/
def exactCard : Claim7 := { stood := { row := exactRow, standIns := [], harness := (true, "0d2dcd0076c2f88fc5502aacc9866f866d24bef19d59c333f7707cbd746d8e05"), looks := false }, kinds := [], alts := [], laidByText := true, laidKinds := [.data, .data, .data, .data], laidTests := true, laidLooks := .later }
def ExactCardSaid : Prop := Claim7.holds Tryd.pinned (.plain (OpenSpec.ofChange exactSpec)) exactCard

/-- THE TIED CARD OF 'litmuslaw.One'. -/
def oneCard : Claim7 := { stood := { row := oneRow, standIns := [], harness := (true, "0d2dcd0076c2f88fc5502aacc9866f866d24bef19d59c333f7707cbd746d8e05"), looks := false }, kinds := [], alts := [], laidByText := true, laidKinds := [.data, .data, .data, .data], laidTests := true, laidLooks := .later }
def OneCardSaid : Prop := Claim7.holds Tryd.pinned (.plain (OpenSpec.ofChange oneSpec)) oneCard

/-- THE SECOND FORM's CARD OF 'litmuslaw.Checks'. -/
def checksUptoCard : Claim7 := { stood := { row := checksUptoRow, standIns := [], harness := (true, "0d2dcd0076c2f88fc5502aacc9866f866d24bef19d59c333f7707cbd746d8e05"), looks := false }, kinds := [], alts := [], laidByText := true, laidKinds := [.data, .data, .data, .data], laidTests := true, laidLooks := .later }
def ChecksUptoCardSaid : Prop := Claim7.holds Tryd.pinned (.plain (OpenSpec.upto checksSpec)) checksUptoCard

/-- THE SECOND FORM's CARD OF 'litmuslaw.Bases'. -/
def basesUptoCard : Claim7 := { stood := { row := basesUptoRow, standIns := [], harness := (true, "0d2dcd0076c2f88fc5502aacc9866f866d24bef19d59c333f7707cbd746d8e05"), looks := false }, kinds := [], alts := [], laidByText := true, laidKinds := [.data, .data, .data, .data], laidTests := true, laidLooks := .later }
def BasesUptoCardSaid : Prop := Claim7.holds Tryd.pinned (.plain (OpenSpec.upto basesSpec)) basesUptoCard

/-- THE SECOND FORM's CARD OF 'litmuslaw.Itself'. -/
def itselfUptoCard : Claim7 := { stood := { row := itselfUptoRow, standIns := [], harness := (true, "0d2dcd0076c2f88fc5502aacc9866f866d24bef19d59c333f7707cbd746d8e05"), looks := false }, kinds := [], alts := [], laidByText := true, laidKinds := [.data], laidTests := true, laidLooks := .later }
def ItselfUptoCardSaid : Prop := Claim7.holds Tryd.pinned (.plain (OpenSpec.upto itselfSpec)) itselfUptoCard

/-- THE SECOND FORM's CARD OF 'litmuslaw.Lists'. -/
def listsUptoCard : Claim7 := { stood := { row := listsUptoRow, standIns := [], harness := (true, "0d2dcd0076c2f88fc5502aacc9866f866d24bef19d59c333f7707cbd746d8e05"), looks := false }, kinds := [], alts := [], laidByText := true, laidKinds := [.data, .data, .data, .data], laidTests := true, laidLooks := .later }
def ListsUptoCardSaid : Prop := Claim7.holds Tryd.pinned (.plain (OpenSpec.upto listsSpec)) listsUptoCard

/-- THE SECOND FORM's CARD OF 'litmuslaw.Listed'. -/
def listedUptoCard : Claim7 := { stood := { row := listedUptoRow, standIns := [], harness := (true, "0d2dcd0076c2f88fc5502aacc9866f866d24bef19d59c333f7707cbd746d8e05"), looks := false }, kinds := [], alts := [], laidByText := true, laidKinds := [.data, .data, .data, .data], laidTests := true, laidLooks := .later }
def ListedUptoCardSaid : Prop := Claim7.holds Tryd.pinned (.plain (OpenSpec.upto listedSpec)) listedUptoCard

/-- THE SECOND FORM's CARD OF 'litmuslaw.Builds'. -/
def buildsUptoCard : Claim7 := { stood := { row := buildsUptoRow, standIns := [], harness := (true, "0d2dcd0076c2f88fc5502aacc9866f866d24bef19d59c333f7707cbd746d8e05"), looks := false }, kinds := [], alts := [], laidByText := true, laidKinds := [.data, .data, .data, .data], laidTests := true, laidLooks := .later }
def BuildsUptoCardSaid : Prop := Claim7.holds Tryd.pinned (.plain (OpenSpec.upto buildsSpec)) buildsUptoCard

/-- THE SECOND FORM's CARD OF 'litmuslaw.Exact'. -/
def exactUptoCard : Claim7 := { stood := { row := exactUptoRow, standIns := [], harness := (true, "0d2dcd0076c2f88fc5502aacc9866f866d24bef19d59c333f7707cbd746d8e05"), looks := false }, kinds := [], alts := [], laidByText := true, laidKinds := [.data, .data, .data, .data], laidTests := true, laidLooks := .later }
def ExactUptoCardSaid : Prop := Claim7.holds Tryd.pinned (.plain (OpenSpec.upto exactSpec)) exactUptoCard

/-- THE SECOND FORM's CARD OF 'litmuslaw.One'. -/
def oneUptoCard : Claim7 := { stood := { row := oneUptoRow, standIns := [], harness := (true, "0d2dcd0076c2f88fc5502aacc9866f866d24bef19d59c333f7707cbd746d8e05"), looks := false }, kinds := [], alts := [], laidByText := true, laidKinds := [.data, .data, .data, .data], laidTests := true, laidLooks := .later }
def OneUptoCardSaid : Prop := Claim7.holds Tryd.pinned (.plain (OpenSpec.upto oneSpec)) oneUptoCard
end Rows
end Go.Proofs.YtokfiflflcfidaaDoor
