/-
  NARROWER THAN 'FOR EVERY INPUT', by the rows' own cells (each row's printed sentence says how): Checks: laid · Bases: laid · Itself: laid · Lists: laid · Listed: laid · Builds: laid · Exact: laid · One: laid.
  DERIVED. THE GIVEN ROWS OF THIS SEAT. 8 by the template 'for every input the law returns true; each argument reads behind the call as it read before'; 0 by the template 'total and deterministic' (their statements: YtokfiflflcfidaaDoorTotals.lean).
  GIVEN WITH THE SEED: the statements are not yours to turn. If you find one false, say at which input.
  Laid BY PROGRAM, IN A SANDBOX (cutbox-rows.mjs): the forced cells as the released guide's own fill.sh prints them over the translation 791d4bc0e3da2f5b… (all of the seat's roots in one cut). By AI agents, Wed Nov 11 2026. No macro, syntax, notation, axiom, sorry.
-/
import Derived.Test.YtokfiflflcfidaaDoorChecked
import GoSem.Claim
import GoSem.ClaimJoined
import GoSem.ClaimMapViews
import Derived.JoinedTies
import Derived.KernelRfl
namespace Go.Proofs.YtokfiflflcfidaaDoor
/- THE CELL 'sum', in the pinned program and in every row, IS THE sha256 OF THE DUMP (.gsa) THAT YtokfiflflcfidaaDoorProg.lean LOADS. Nothing in Lean hashes anything: it is a label: what it is worth is what the hold of that sum in a sandbox is worth. -/
noncomputable def Tryd.pinned : Pinned := { name := "ytokfiflflcfidaadoor", sum := "791d4bc0e3da2f5bd4b6998d4a0f7266175fac35c3048dec63361c30197b4aac", checked := Tryd.checked }
namespace Rows
def none {H : Type} : Left H := { results := [], args := [] }

/- WHAT THE LISTED PACKAGE-LEVEL VARIABLES READ AS WHEN THE CALL BEGINS. Each datum BY PROGRAM (the guide's laid-datum.mjs) off the statement by which the dump's own 'gosem.cut.vars' lays the variable. In a bare row this is a premise. The card (YtokfiflflcfidaaDoorCards.lean) ties it to the program's text. -/
def laid_litmus_litmus_edgeNames {H : Type} : DataW H := .agg [.lit (.string [67, 111, 101]), .lit (.string [67, 111, 105]), .lit (.string [70, 82, 82]), .lit (.string [70, 82, 87]), .lit (.string [70, 87, 82]), .lit (.string [70, 87, 87]), .lit (.string [70, 114, 101]), .lit (.string [70, 114, 105]), .lit (.string [80, 82, 82]), .lit (.string [80, 82, 87]), .lit (.string [80, 87, 82]), .lit (.string [80, 87, 87]), .lit (.string [82, 102, 101]), .lit (.string [82, 102, 105])]
def laid_litmus_litmusref_names {H : Type} : DataW H := .agg [.lit (.string [67, 111, 101]), .lit (.string [67, 111, 105]), .lit (.string [70, 82, 82]), .lit (.string [70, 82, 87]), .lit (.string [70, 87, 82]), .lit (.string [70, 87, 87]), .lit (.string [70, 114, 101]), .lit (.string [70, 114, 105]), .lit (.string [80, 82, 82]), .lit (.string [80, 82, 87]), .lit (.string [80, 87, 82]), .lit (.string [80, 87, 87]), .lit (.string [82, 102, 101]), .lit (.string [82, 102, 105])]
def laid_litmus_litmusref_starts {H : Type} : DataW H := .agg [.lit (.bool true), .lit (.bool true), .lit (.bool false), .lit (.bool false), .lit (.bool true), .lit (.bool true), .lit (.bool false), .lit (.bool false), .lit (.bool false), .lit (.bool false), .lit (.bool true), .lit (.bool true), .lit (.bool true), .lit (.bool true)]
def laid_litmus_litmusref_ends {H : Type} : DataW H := .agg [.lit (.bool true), .lit (.bool true), .lit (.bool false), .lit (.bool true), .lit (.bool false), .lit (.bool true), .lit (.bool true), .lit (.bool true), .lit (.bool false), .lit (.bool true), .lit (.bool false), .lit (.bool true), .lit (.bool false), .lit (.bool false)]

/-- 'litmuslaw.Checks': WHATEVER THE INPUT: true; the input reads as it did. -/
def checksSpec : ChangeSpec := { name := "checks", fn := fun _ => fun
  | [d] => { results := [.lit (.bool true)], args := [d] }
  | _ => none }
def checksRow : OpenClaim := { program := "ytokfiflflcfidaadoor", sum := "791d4bc0e3da2f5bd4b6998d4a0f7266175fac35c3048dec63361c30197b4aac", func := "litmus/litmuslaw.Checks", spec := "checks", named := ["litmus/litmus.edgeNames", "litmus/litmusref.starts", "litmus/litmusref.ends", "litmus/litmusref.names"], apart := false, laid := [("litmus/litmus.edgeNames", laid_litmus_litmus_edgeNames), ("litmus/litmusref.names", laid_litmus_litmusref_names), ("litmus/litmusref.starts", laid_litmus_litmusref_starts), ("litmus/litmusref.ends", laid_litmus_litmusref_ends)] }
def ChecksSaid : Prop := checksRow.holds Tryd.pinned (OpenSpec.ofChange checksSpec)

/-- ITS FALSE NEIGHBOUR: 'it returns false'. Refute it at one input. -/
def checksWrong : ChangeSpec := { name := "checks", fn := fun _ => fun
  | [d] => { results := [.lit (.bool false)], args := [d] }
  | _ => none }
def ChecksWrongFalsely : Prop := checksRow.holds Tryd.pinned (OpenSpec.ofChange checksWrong)

/-- 'litmuslaw.Bases': WHATEVER THE INPUT: true; the input reads as it did. -/
def basesSpec : ChangeSpec := { name := "bases", fn := fun _ => fun
  | [d] => { results := [.lit (.bool true)], args := [d] }
  | _ => none }
def basesRow : OpenClaim := { program := "ytokfiflflcfidaadoor", sum := "791d4bc0e3da2f5bd4b6998d4a0f7266175fac35c3048dec63361c30197b4aac", func := "litmus/litmuslaw.Bases", spec := "bases", named := ["litmus/litmus.edgeNames", "litmus/litmusref.starts", "litmus/litmusref.ends", "litmus/litmusref.names"], apart := false, laid := [("litmus/litmus.edgeNames", laid_litmus_litmus_edgeNames), ("litmus/litmusref.names", laid_litmus_litmusref_names), ("litmus/litmusref.starts", laid_litmus_litmusref_starts), ("litmus/litmusref.ends", laid_litmus_litmusref_ends)] }
def BasesSaid : Prop := basesRow.holds Tryd.pinned (OpenSpec.ofChange basesSpec)

/-- ITS FALSE NEIGHBOUR: 'it returns false'. Refute it at one input. -/
def basesWrong : ChangeSpec := { name := "bases", fn := fun _ => fun
  | [d] => { results := [.lit (.bool false)], args := [d] }
  | _ => none }
def BasesWrongFalsely : Prop := basesRow.holds Tryd.pinned (OpenSpec.ofChange basesWrong)

/-- 'litmuslaw.Itself': WHATEVER THE INPUT: true; the input reads as it did. -/
def itselfSpec : ChangeSpec := { name := "itself", fn := fun _ => fun
  | [d] => { results := [.lit (.bool true)], args := [d] }
  | _ => none }
def itselfRow : OpenClaim := { program := "ytokfiflflcfidaadoor", sum := "791d4bc0e3da2f5bd4b6998d4a0f7266175fac35c3048dec63361c30197b4aac", func := "litmus/litmuslaw.Itself", spec := "itself", named := ["litmus/litmus.edgeNames"], apart := false, laid := [("litmus/litmus.edgeNames", laid_litmus_litmus_edgeNames)] }
def ItselfSaid : Prop := itselfRow.holds Tryd.pinned (OpenSpec.ofChange itselfSpec)

/-- ITS FALSE NEIGHBOUR: 'it returns false'. Refute it at one input. -/
def itselfWrong : ChangeSpec := { name := "itself", fn := fun _ => fun
  | [d] => { results := [.lit (.bool false)], args := [d] }
  | _ => none }
def ItselfWrongFalsely : Prop := itselfRow.holds Tryd.pinned (OpenSpec.ofChange itselfWrong)

/-- 'litmuslaw.Lists': WHATEVER THE INPUT: true; the input reads as it did. -/
def listsSpec : ChangeSpec := { name := "lists", fn := fun _ => fun
  | [d1, d2] => { results := [.lit (.bool true)], args := [d1, d2] }
  | _ => none }
def listsRow : OpenClaim := { program := "ytokfiflflcfidaadoor", sum := "791d4bc0e3da2f5bd4b6998d4a0f7266175fac35c3048dec63361c30197b4aac", func := "litmus/litmuslaw.Lists", spec := "lists", recurses := true, named := ["litmus/litmus.edgeNames", "litmus/litmusref.starts", "litmus/litmusref.ends", "litmus/litmusref.names"], apart := false, laid := [("litmus/litmus.edgeNames", laid_litmus_litmus_edgeNames), ("litmus/litmusref.names", laid_litmus_litmusref_names), ("litmus/litmusref.starts", laid_litmus_litmusref_starts), ("litmus/litmusref.ends", laid_litmus_litmusref_ends)] }
def ListsSaid : Prop := listsRow.holds Tryd.pinned (OpenSpec.ofChange listsSpec)

/-- ITS FALSE NEIGHBOUR: 'it returns false'. Refute it at one input. -/
def listsWrong : ChangeSpec := { name := "lists", fn := fun _ => fun
  | [d1, d2] => { results := [.lit (.bool false)], args := [d1, d2] }
  | _ => none }
def ListsWrongFalsely : Prop := listsRow.holds Tryd.pinned (OpenSpec.ofChange listsWrong)

/-- 'litmuslaw.Listed': WHATEVER THE INPUT: true; the input reads as it did. -/
def listedSpec : ChangeSpec := { name := "listed", fn := fun _ => fun
  | [d1, d2, d3] => { results := [.lit (.bool true)], args := [d1, d2, d3] }
  | _ => none }
def listedRow : OpenClaim := { program := "ytokfiflflcfidaadoor", sum := "791d4bc0e3da2f5bd4b6998d4a0f7266175fac35c3048dec63361c30197b4aac", func := "litmus/litmuslaw.Listed", spec := "listed", named := ["litmus/litmus.edgeNames", "litmus/litmusref.starts", "litmus/litmusref.ends", "litmus/litmusref.names"], apart := false, laid := [("litmus/litmus.edgeNames", laid_litmus_litmus_edgeNames), ("litmus/litmusref.names", laid_litmus_litmusref_names), ("litmus/litmusref.starts", laid_litmus_litmusref_starts), ("litmus/litmusref.ends", laid_litmus_litmusref_ends)] }
def ListedSaid : Prop := listedRow.holds Tryd.pinned (OpenSpec.ofChange listedSpec)

/-- ITS FALSE NEIGHBOUR: 'it returns false'. Refute it at one input. -/
def listedWrong : ChangeSpec := { name := "listed", fn := fun _ => fun
  | [d1, d2, d3] => { results := [.lit (.bool false)], args := [d1, d2, d3] }
  | _ => none }
def ListedWrongFalsely : Prop := listedRow.holds Tryd.pinned (OpenSpec.ofChange listedWrong)

/-- 'litmuslaw.Builds': WHATEVER THE INPUT: true; the input reads as it did. -/
def buildsSpec : ChangeSpec := { name := "builds", fn := fun _ => fun
  | [d] => { results := [.lit (.bool true)], args := [d] }
  | _ => none }
def buildsRow : OpenClaim := { program := "ytokfiflflcfidaadoor", sum := "791d4bc0e3da2f5bd4b6998d4a0f7266175fac35c3048dec63361c30197b4aac", func := "litmus/litmuslaw.Builds", spec := "builds", named := ["litmus/litmus.edgeNames", "litmus/litmusref.starts", "litmus/litmusref.ends", "litmus/litmusref.names"], apart := false, laid := [("litmus/litmus.edgeNames", laid_litmus_litmus_edgeNames), ("litmus/litmusref.names", laid_litmus_litmusref_names), ("litmus/litmusref.starts", laid_litmus_litmusref_starts), ("litmus/litmusref.ends", laid_litmus_litmusref_ends)] }
def BuildsSaid : Prop := buildsRow.holds Tryd.pinned (OpenSpec.ofChange buildsSpec)

/-- ITS FALSE NEIGHBOUR: 'it returns false'. Refute it at one input. -/
def buildsWrong : ChangeSpec := { name := "builds", fn := fun _ => fun
  | [d] => { results := [.lit (.bool false)], args := [d] }
  | _ => none }
def BuildsWrongFalsely : Prop := buildsRow.holds Tryd.pinned (OpenSpec.ofChange buildsWrong)

/-- 'litmuslaw.Exact': WHATEVER THE INPUT: true; the input reads as it did. -/
def exactSpec : ChangeSpec := { name := "exact", fn := fun _ => fun
  | [d1, d2] => { results := [.lit (.bool true)], args := [d1, d2] }
  | _ => none }
def exactRow : OpenClaim := { program := "ytokfiflflcfidaadoor", sum := "791d4bc0e3da2f5bd4b6998d4a0f7266175fac35c3048dec63361c30197b4aac", func := "litmus/litmuslaw.Exact", spec := "exact", named := ["litmus/litmusref.starts", "litmus/litmusref.ends", "litmus/litmusref.names", "litmus/litmus.edgeNames"], apart := false, laid := [("litmus/litmus.edgeNames", laid_litmus_litmus_edgeNames), ("litmus/litmusref.names", laid_litmus_litmusref_names), ("litmus/litmusref.starts", laid_litmus_litmusref_starts), ("litmus/litmusref.ends", laid_litmus_litmusref_ends)] }
def ExactSaid : Prop := exactRow.holds Tryd.pinned (OpenSpec.ofChange exactSpec)

/-- ITS FALSE NEIGHBOUR: 'it returns false'. Refute it at one input. -/
def exactWrong : ChangeSpec := { name := "exact", fn := fun _ => fun
  | [d1, d2] => { results := [.lit (.bool false)], args := [d1, d2] }
  | _ => none }
def ExactWrongFalsely : Prop := exactRow.holds Tryd.pinned (OpenSpec.ofChange exactWrong)

/-- 'litmuslaw.One': WHATEVER THE INPUT: true; the input reads as it did. -/
def oneSpec : ChangeSpec := { name := "one", fn := fun _ => fun
  | [d1, d2, d3] => { results := [.lit (.bool true)], args := [d1, d2, d3] }
  | _ => none }
def oneRow : OpenClaim := { program := "ytokfiflflcfidaadoor", sum := "791d4bc0e3da2f5bd4b6998d4a0f7266175fac35c3048dec63361c30197b4aac", func := "litmus/litmuslaw.One", spec := "one", named := ["litmus/litmusref.starts", "litmus/litmusref.ends", "litmus/litmusref.names", "litmus/litmus.edgeNames"], apart := false, laid := [("litmus/litmus.edgeNames", laid_litmus_litmus_edgeNames), ("litmus/litmusref.names", laid_litmus_litmusref_names), ("litmus/litmusref.starts", laid_litmus_litmusref_starts), ("litmus/litmusref.ends", laid_litmus_litmusref_ends)] }
def OneSaid : Prop := oneRow.holds Tryd.pinned (OpenSpec.ofChange oneSpec)

/-- ITS FALSE NEIGHBOUR: 'it returns false'. Refute it at one input. -/
def oneWrong : ChangeSpec := { name := "one", fn := fun _ => fun
  | [d1, d2, d3] => { results := [.lit (.bool false)], args := [d1, d2, d3] }
  | _ => none }
def OneWrongFalsely : Prop := oneRow.holds Tryd.pinned (OpenSpec.ofChange oneWrong)

/- THE SECOND FORM. 'bulk': how many values and letters a reading holds, each counted each time it is reached (what is shared counts as often as it is met; a slice's spare places count too). A statement '..UptoSaid' is the law's where the arguments, and the package variables that the reading takes, are together of bulk at most 1048576: NARROWER than '..Said'. Prove '..Said' where nothing that the law and all that it calls make is longer than what came in: it says more and counts as full. Else prove '..UptoSaid'. A law counts once. -/
mutual
def uptoBulk {H : Type} : DataW H → Nat
  | .lit (.string bytes) => bytes.length + 1
  | .lit _ => 1
  | .nil => 1
  | .ptr d => uptoBulk d + 1
  | .slice elems spare => uptoBulkAll elems + uptoBulkAll spare + 1
  | .agg parts => uptoBulkAll parts + 1
  | .iface _ d => uptoBulk d + 1
  | .map entries => uptoBulkEntries entries + 1
  | .held _ => 1
def uptoBulkAll {H : Type} : List (DataW H) → Nat
  | [] => 0
  | d :: r => uptoBulk d + uptoBulkAll r
def uptoBulkEntries {H : Type} : List (Lit × DataW H) → Nat
  | [] => 0
  | x :: r => uptoBulkEntry x + uptoBulkEntries r
def uptoBulkEntry {H : Type} : Lit × DataW H → Nat
  | (.string bytes, d) => bytes.length + uptoBulk d + 1
  | (_, d) => uptoBulk d + 1
 end
def uptoSmall : (H : Type) → List (DataW H) → Bool := fun _ ds => decide (uptoBulkAll ds ≤ 1048576)
def OpenSpec.upto (s : _root_.Go.ChangeSpec) : _root_.Go.OpenSpec := { _root_.Go.OpenSpec.ofChange s with cond := some uptoSmall }

/-- 'litmuslaw.Checks', WHERE WHAT IT READS IS OF BULK AT MOST 1048576: true; the input reads as it did. -/
def checksUptoRow : OpenClaim := { program := "ytokfiflflcfidaadoor", sum := "791d4bc0e3da2f5bd4b6998d4a0f7266175fac35c3048dec63361c30197b4aac", func := "litmus/litmuslaw.Checks", spec := "checks", named := ["litmus/litmus.edgeNames", "litmus/litmusref.starts", "litmus/litmusref.ends", "litmus/litmusref.names"], apart := false, laid := [("litmus/litmus.edgeNames", laid_litmus_litmus_edgeNames), ("litmus/litmusref.names", laid_litmus_litmusref_names), ("litmus/litmusref.starts", laid_litmus_litmusref_starts), ("litmus/litmusref.ends", laid_litmus_litmusref_ends)], narrowed := true }
def ChecksUptoSaid : Prop := checksUptoRow.holds Tryd.pinned (OpenSpec.upto checksSpec)

/-- 'litmuslaw.Bases', WHERE WHAT IT READS IS OF BULK AT MOST 1048576: true; the input reads as it did. -/
def basesUptoRow : OpenClaim := { program := "ytokfiflflcfidaadoor", sum := "791d4bc0e3da2f5bd4b6998d4a0f7266175fac35c3048dec63361c30197b4aac", func := "litmus/litmuslaw.Bases", spec := "bases", named := ["litmus/litmus.edgeNames", "litmus/litmusref.starts", "litmus/litmusref.ends", "litmus/litmusref.names"], apart := false, laid := [("litmus/litmus.edgeNames", laid_litmus_litmus_edgeNames), ("litmus/litmusref.names", laid_litmus_litmusref_names), ("litmus/litmusref.starts", laid_litmus_litmusref_starts), ("litmus/litmusref.ends", laid_litmus_litmusref_ends)], narrowed := true }
def BasesUptoSaid : Prop := basesUptoRow.holds Tryd.pinned (OpenSpec.upto basesSpec)

/-- 'litmuslaw.Itself', WHERE WHAT IT READS IS OF BULK AT MOST 1048576: true; the input reads as it did. -/
def itselfUptoRow : OpenClaim := { program := "ytokfiflflcfidaadoor", sum := "791d4bc0e3da2f5bd4b6998d4a0f7266175fac35c3048dec63361c30197b4aac", func := "litmus/litmuslaw.Itself", spec := "itself", named := ["litmus/litmus.edgeNames"], apart := false, laid := [("litmus/litmus.edgeNames", laid_litmus_litmus_edgeNames)], narrowed := true }
def ItselfUptoSaid : Prop := itselfUptoRow.holds Tryd.pinned (OpenSpec.upto itselfSpec)

/-- 'litmuslaw.Lists', WHERE WHAT IT READS IS OF BULK AT MOST 1048576: true; the input reads as it did. -/
def listsUptoRow : OpenClaim := { program := "ytokfiflflcfidaadoor", sum := "791d4bc0e3da2f5bd4b6998d4a0f7266175fac35c3048dec63361c30197b4aac", func := "litmus/litmuslaw.Lists", spec := "lists", recurses := true, named := ["litmus/litmus.edgeNames", "litmus/litmusref.starts", "litmus/litmusref.ends", "litmus/litmusref.names"], apart := false, laid := [("litmus/litmus.edgeNames", laid_litmus_litmus_edgeNames), ("litmus/litmusref.names", laid_litmus_litmusref_names), ("litmus/litmusref.starts", laid_litmus_litmusref_starts), ("litmus/litmusref.ends", laid_litmus_litmusref_ends)], narrowed := true }
def ListsUptoSaid : Prop := listsUptoRow.holds Tryd.pinned (OpenSpec.upto listsSpec)

/-- 'litmuslaw.Listed', WHERE WHAT IT READS IS OF BULK AT MOST 1048576: true; the input reads as it did. -/
def listedUptoRow : OpenClaim := { program := "ytokfiflflcfidaadoor", sum := "791d4bc0e3da2f5bd4b6998d4a0f7266175fac35c3048dec63361c30197b4aac", func := "litmus/litmuslaw.Listed", spec := "listed", named := ["litmus/litmus.edgeNames", "litmus/litmusref.starts", "litmus/litmusref.ends", "litmus/litmusref.names"], apart := false, laid := [("litmus/litmus.edgeNames", laid_litmus_litmus_edgeNames), ("litmus/litmusref.names", laid_litmus_litmusref_names), ("litmus/litmusref.starts", laid_litmus_litmusref_starts), ("litmus/litmusref.ends", laid_litmus_litmusref_ends)], narrowed := true }
def ListedUptoSaid : Prop := listedUptoRow.holds Tryd.pinned (OpenSpec.upto listedSpec)

/-- 'litmuslaw.Builds', WHERE WHAT IT READS IS OF BULK AT MOST 1048576: true; the input reads as it did. -/
def buildsUptoRow : OpenClaim := { program := "ytokfiflflcfidaadoor", sum := "791d4bc0e3da2f5bd4b6998d4a0f7266175fac35c3048dec63361c30197b4aac", func := "litmus/litmuslaw.Builds", spec := "builds", named := ["litmus/litmus.edgeNames", "litmus/litmusref.starts", "litmus/litmusref.ends", "litmus/litmusref.names"], apart := false, laid := [("litmus/litmus.edgeNames", laid_litmus_litmus_edgeNames), ("litmus/litmusref.names", laid_litmus_litmusref_names), ("litmus/litmusref.starts", laid_litmus_litmusref_starts), ("litmus/litmusref.ends", laid_litmus_litmusref_ends)], narrowed := true }
def BuildsUptoSaid : Prop := buildsUptoRow.holds Tryd.pinned (OpenSpec.upto buildsSpec)

/-- 'litmuslaw.Exact', WHERE WHAT IT READS IS OF BULK AT MOST 1048576: true; the input reads as it did. -/
def exactUptoRow : OpenClaim := { program := "ytokfiflflcfidaadoor", sum := "791d4bc0e3da2f5bd4b6998d4a0f7266175fac35c3048dec63361c30197b4aac", func := "litmus/litmuslaw.Exact", spec := "exact", named := ["litmus/litmusref.starts", "litmus/litmusref.ends", "litmus/litmusref.names", "litmus/litmus.edgeNames"], apart := false, laid := [("litmus/litmus.edgeNames", laid_litmus_litmus_edgeNames), ("litmus/litmusref.names", laid_litmus_litmusref_names), ("litmus/litmusref.starts", laid_litmus_litmusref_starts), ("litmus/litmusref.ends", laid_litmus_litmusref_ends)], narrowed := true }
def ExactUptoSaid : Prop := exactUptoRow.holds Tryd.pinned (OpenSpec.upto exactSpec)

/-- 'litmuslaw.One', WHERE WHAT IT READS IS OF BULK AT MOST 1048576: true; the input reads as it did. -/
def oneUptoRow : OpenClaim := { program := "ytokfiflflcfidaadoor", sum := "791d4bc0e3da2f5bd4b6998d4a0f7266175fac35c3048dec63361c30197b4aac", func := "litmus/litmuslaw.One", spec := "one", named := ["litmus/litmusref.starts", "litmus/litmusref.ends", "litmus/litmusref.names", "litmus/litmus.edgeNames"], apart := false, laid := [("litmus/litmus.edgeNames", laid_litmus_litmus_edgeNames), ("litmus/litmusref.names", laid_litmus_litmusref_names), ("litmus/litmusref.starts", laid_litmus_litmusref_starts), ("litmus/litmusref.ends", laid_litmus_litmusref_ends)], narrowed := true }
def OneUptoSaid : Prop := oneUptoRow.holds Tryd.pinned (OpenSpec.upto oneSpec)

end Rows
end Go.Proofs.YtokfiflflcfidaaDoor
