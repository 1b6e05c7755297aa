/-
  NARROWER THAN 'FOR EVERY INPUT', by the rows' own cells (each row's printed sentence says how): Labels: laid · Never: laid · Forbids: laid · Shows: laid · Firm: laid · Same: laid.
  DERIVED. THE GIVEN ROWS OF THIS SEAT. 6 by the template 'for every input the law returns true; each argument reads behind the call as it read before'; 0 by the template 'total and deterministic' (their statements: YtokfiflflcfidabDoorTotals.lean).
  GIVEN WITH THE SEED: the statements are not yours to turn. If you find one false, say at which input.
  Laid BY PROGRAM, IN A SANDBOX (cutbox-rows.mjs): the forced cells as the released guide's own fill.sh prints them over the translation 981f3a0e045b5281… (all of the seat's roots in one cut). By AI agents, Wed Nov 11 2026. No macro, syntax, notation, axiom, sorry.
-/
import Derived.Test.YtokfiflflcfidabDoorChecked
import GoSem.Claim
import GoSem.ClaimJoined
import GoSem.ClaimMapViews
import Derived.JoinedTies
import Derived.KernelRfl
namespace Go.Proofs.YtokfiflflcfidabDoor
/- THE CELL 'sum', in the pinned program and in every row, IS THE sha256 OF THE DUMP (.gsa) THAT YtokfiflflcfidabDoorProg.lean LOADS. Nothing in Lean hashes anything: it is a label: what it is worth is what the hold of that sum in a sandbox is worth. -/
noncomputable def Tryd.pinned : Pinned := { name := "ytokfiflflcfidabdoor", sum := "981f3a0e045b528122052f3c6a62c67178a9d3a25d403a6c6765cdcce68de746", checked := Tryd.checked }
namespace Rows
def none {H : Type} : Left H := { results := [], args := [] }

/- WHAT THE LISTED PACKAGE-LEVEL VARIABLES READ AS WHEN THE CALL BEGINS. Each datum BY PROGRAM (the guide's laid-datum.mjs) off the statement by which the dump's own 'gosem.cut.vars' lays the variable. In a bare row this is a premise. The card (YtokfiflflcfidabDoorCards.lean) ties it to the program's text. -/
def laid_litmus_litmus_edgeNames {H : Type} : DataW H := .agg [.lit (.string [67, 111, 101]), .lit (.string [67, 111, 105]), .lit (.string [70, 82, 82]), .lit (.string [70, 82, 87]), .lit (.string [70, 87, 82]), .lit (.string [70, 87, 87]), .lit (.string [70, 114, 101]), .lit (.string [70, 114, 105]), .lit (.string [80, 82, 82]), .lit (.string [80, 82, 87]), .lit (.string [80, 87, 82]), .lit (.string [80, 87, 87]), .lit (.string [82, 102, 101]), .lit (.string [82, 102, 105])]
def laid_litmus_litmusref_names {H : Type} : DataW H := .agg [.lit (.string [67, 111, 101]), .lit (.string [67, 111, 105]), .lit (.string [70, 82, 82]), .lit (.string [70, 82, 87]), .lit (.string [70, 87, 82]), .lit (.string [70, 87, 87]), .lit (.string [70, 114, 101]), .lit (.string [70, 114, 105]), .lit (.string [80, 82, 82]), .lit (.string [80, 82, 87]), .lit (.string [80, 87, 82]), .lit (.string [80, 87, 87]), .lit (.string [82, 102, 101]), .lit (.string [82, 102, 105])]
def laid_litmus_litmusref_starts {H : Type} : DataW H := .agg [.lit (.bool true), .lit (.bool true), .lit (.bool false), .lit (.bool false), .lit (.bool true), .lit (.bool true), .lit (.bool false), .lit (.bool false), .lit (.bool false), .lit (.bool false), .lit (.bool true), .lit (.bool true), .lit (.bool true), .lit (.bool true)]
def laid_litmus_litmusref_ends {H : Type} : DataW H := .agg [.lit (.bool true), .lit (.bool true), .lit (.bool false), .lit (.bool true), .lit (.bool false), .lit (.bool true), .lit (.bool true), .lit (.bool true), .lit (.bool false), .lit (.bool true), .lit (.bool false), .lit (.bool true), .lit (.bool false), .lit (.bool false)]

/-- 'litmuslaw.Labels': WHATEVER THE INPUT: true; the input reads as it did. -/
def labelsSpec : ChangeSpec := { name := "labels", fn := fun _ => fun
  | [d1, d2] => { results := [.lit (.bool true)], args := [d1, d2] }
  | _ => none }
def labelsRow : OpenClaim := { program := "ytokfiflflcfidabdoor", sum := "981f3a0e045b528122052f3c6a62c67178a9d3a25d403a6c6765cdcce68de746", func := "litmus/litmuslaw.Labels", spec := "labels", named := ["litmus/litmus.edgeNames", "litmus/litmusref.starts", "litmus/litmusref.ends", "litmus/litmusref.names"], apart := false, laid := [("litmus/litmus.edgeNames", laid_litmus_litmus_edgeNames), ("litmus/litmusref.names", laid_litmus_litmusref_names), ("litmus/litmusref.starts", laid_litmus_litmusref_starts), ("litmus/litmusref.ends", laid_litmus_litmusref_ends)] }
def LabelsSaid : Prop := labelsRow.holds Tryd.pinned (OpenSpec.ofChange labelsSpec)

/-- ITS FALSE NEIGHBOUR: 'it returns false'. Refute it at one input. -/
def labelsWrong : ChangeSpec := { name := "labels", fn := fun _ => fun
  | [d1, d2] => { results := [.lit (.bool false)], args := [d1, d2] }
  | _ => none }
def LabelsWrongFalsely : Prop := labelsRow.holds Tryd.pinned (OpenSpec.ofChange labelsWrong)

/-- 'litmuslaw.Never': WHATEVER THE INPUT: true; the input reads as it did. -/
def neverSpec : ChangeSpec := { name := "never", fn := fun _ => fun
  | [d1, d2] => { results := [.lit (.bool true)], args := [d1, d2] }
  | _ => none }
def neverRow : OpenClaim := { program := "ytokfiflflcfidabdoor", sum := "981f3a0e045b528122052f3c6a62c67178a9d3a25d403a6c6765cdcce68de746", func := "litmus/litmuslaw.Never", spec := "never", named := ["litmus/litmusref.starts", "litmus/litmusref.ends", "litmus/litmusref.names", "litmus/litmus.edgeNames"], apart := false, laid := [("litmus/litmus.edgeNames", laid_litmus_litmus_edgeNames), ("litmus/litmusref.names", laid_litmus_litmusref_names), ("litmus/litmusref.starts", laid_litmus_litmusref_starts), ("litmus/litmusref.ends", laid_litmus_litmusref_ends)] }
def NeverSaid : Prop := neverRow.holds Tryd.pinned (OpenSpec.ofChange neverSpec)

/-- ITS FALSE NEIGHBOUR: 'it returns false'. Refute it at one input. -/
def neverWrong : ChangeSpec := { name := "never", fn := fun _ => fun
  | [d1, d2] => { results := [.lit (.bool false)], args := [d1, d2] }
  | _ => none }
def NeverWrongFalsely : Prop := neverRow.holds Tryd.pinned (OpenSpec.ofChange neverWrong)

/-- 'litmuslaw.Forbids': WHATEVER THE INPUT: true; the input reads as it did. -/
def forbidsSpec : ChangeSpec := { name := "forbids", fn := fun _ => fun
  | [d1, d2] => { results := [.lit (.bool true)], args := [d1, d2] }
  | _ => none }
def forbidsRow : OpenClaim := { program := "ytokfiflflcfidabdoor", sum := "981f3a0e045b528122052f3c6a62c67178a9d3a25d403a6c6765cdcce68de746", func := "litmus/litmuslaw.Forbids", spec := "forbids", named := ["litmus/litmusref.starts", "litmus/litmusref.ends", "litmus/litmusref.names", "litmus/litmus.edgeNames"], apart := false, laid := [("litmus/litmus.edgeNames", laid_litmus_litmus_edgeNames), ("litmus/litmusref.names", laid_litmus_litmusref_names), ("litmus/litmusref.starts", laid_litmus_litmusref_starts), ("litmus/litmusref.ends", laid_litmus_litmusref_ends)] }
def ForbidsSaid : Prop := forbidsRow.holds Tryd.pinned (OpenSpec.ofChange forbidsSpec)

/-- ITS FALSE NEIGHBOUR: 'it returns false'. Refute it at one input. -/
def forbidsWrong : ChangeSpec := { name := "forbids", fn := fun _ => fun
  | [d1, d2] => { results := [.lit (.bool false)], args := [d1, d2] }
  | _ => none }
def ForbidsWrongFalsely : Prop := forbidsRow.holds Tryd.pinned (OpenSpec.ofChange forbidsWrong)

/-- 'litmuslaw.Shows': WHATEVER THE INPUT: true; the input reads as it did. -/
def showsSpec : ChangeSpec := { name := "shows", fn := fun _ => fun
  | [d] => { results := [.lit (.bool true)], args := [d] }
  | _ => none }
def showsRow : OpenClaim := { program := "ytokfiflflcfidabdoor", sum := "981f3a0e045b528122052f3c6a62c67178a9d3a25d403a6c6765cdcce68de746", func := "litmus/litmuslaw.Shows", spec := "shows", named := ["litmus/litmus.edgeNames", "litmus/litmusref.starts", "litmus/litmusref.ends", "litmus/litmusref.names"], apart := false, laid := [("litmus/litmus.edgeNames", laid_litmus_litmus_edgeNames), ("litmus/litmusref.names", laid_litmus_litmusref_names), ("litmus/litmusref.starts", laid_litmus_litmusref_starts), ("litmus/litmusref.ends", laid_litmus_litmusref_ends)] }
def ShowsSaid : Prop := showsRow.holds Tryd.pinned (OpenSpec.ofChange showsSpec)

/-- ITS FALSE NEIGHBOUR: 'it returns false'. Refute it at one input. -/
def showsWrong : ChangeSpec := { name := "shows", fn := fun _ => fun
  | [d] => { results := [.lit (.bool false)], args := [d] }
  | _ => none }
def ShowsWrongFalsely : Prop := showsRow.holds Tryd.pinned (OpenSpec.ofChange showsWrong)

/-- 'litmuslaw.Firm': WHATEVER THE INPUT: true; the input reads as it did. -/
def firmSpec : ChangeSpec := { name := "firm", fn := fun _ => fun
  | [d] => { results := [.lit (.bool true)], args := [d] }
  | _ => none }
def firmRow : OpenClaim := { program := "ytokfiflflcfidabdoor", sum := "981f3a0e045b528122052f3c6a62c67178a9d3a25d403a6c6765cdcce68de746", func := "litmus/litmuslaw.Firm", spec := "firm", named := ["litmus/litmusref.starts", "litmus/litmusref.ends", "litmus/litmusref.names", "litmus/litmus.edgeNames"], apart := false, laid := [("litmus/litmus.edgeNames", laid_litmus_litmus_edgeNames), ("litmus/litmusref.names", laid_litmus_litmusref_names), ("litmus/litmusref.starts", laid_litmus_litmusref_starts), ("litmus/litmusref.ends", laid_litmus_litmusref_ends)] }
def FirmSaid : Prop := firmRow.holds Tryd.pinned (OpenSpec.ofChange firmSpec)

/-- ITS FALSE NEIGHBOUR: 'it returns false'. Refute it at one input. -/
def firmWrong : ChangeSpec := { name := "firm", fn := fun _ => fun
  | [d] => { results := [.lit (.bool false)], args := [d] }
  | _ => none }
def FirmWrongFalsely : Prop := firmRow.holds Tryd.pinned (OpenSpec.ofChange firmWrong)

/-- 'litmuslaw.Same': WHATEVER THE INPUT: true; the input reads as it did. -/
def sameSpec : ChangeSpec := { name := "same", fn := fun _ => fun
  | [d1, d2] => { results := [.lit (.bool true)], args := [d1, d2] }
  | _ => none }
def sameRow : OpenClaim := { program := "ytokfiflflcfidabdoor", sum := "981f3a0e045b528122052f3c6a62c67178a9d3a25d403a6c6765cdcce68de746", func := "litmus/litmuslaw.Same", spec := "same", named := ["litmus/litmus.edgeNames", "litmus/litmusref.names"], apart := false, laid := [("litmus/litmus.edgeNames", laid_litmus_litmus_edgeNames), ("litmus/litmusref.names", laid_litmus_litmusref_names)] }
def SameSaid : Prop := sameRow.holds Tryd.pinned (OpenSpec.ofChange sameSpec)

/-- ITS FALSE NEIGHBOUR: 'it returns false'. Refute it at one input. -/
def sameWrong : ChangeSpec := { name := "same", fn := fun _ => fun
  | [d1, d2] => { results := [.lit (.bool false)], args := [d1, d2] }
  | _ => none }
def SameWrongFalsely : Prop := sameRow.holds Tryd.pinned (OpenSpec.ofChange sameWrong)

/- THE SECOND FORM. 'bulk': how many values and letters a reading holds, each counted each time it is reached (what is shared counts as often as it is met; a slice's spare places count too). A statement '..UptoSaid' is the law's where the arguments, and the package variables that the reading takes, are together of bulk at most 1048576: NARROWER than '..Said'. Prove '..Said' where nothing that the law and all that it calls make is longer than what came in: it says more and counts as full. Else prove '..UptoSaid'. A law counts once. -/
mutual
def uptoBulk {H : Type} : DataW H → Nat
  | .lit (.string bytes) => bytes.length + 1
  | .lit _ => 1
  | .nil => 1
  | .ptr d => uptoBulk d + 1
  | .slice elems spare => uptoBulkAll elems + uptoBulkAll spare + 1
  | .agg parts => uptoBulkAll parts + 1
  | .iface _ d => uptoBulk d + 1
  | .map entries => uptoBulkEntries entries + 1
  | .held _ => 1
def uptoBulkAll {H : Type} : List (DataW H) → Nat
  | [] => 0
  | d :: r => uptoBulk d + uptoBulkAll r
def uptoBulkEntries {H : Type} : List (Lit × DataW H) → Nat
  | [] => 0
  | x :: r => uptoBulkEntry x + uptoBulkEntries r
def uptoBulkEntry {H : Type} : Lit × DataW H → Nat
  | (.string bytes, d) => bytes.length + uptoBulk d + 1
  | (_, d) => uptoBulk d + 1
 end
def uptoSmall : (H : Type) → List (DataW H) → Bool := fun _ ds => decide (uptoBulkAll ds ≤ 1048576)
def OpenSpec.upto (s : _root_.Go.ChangeSpec) : _root_.Go.OpenSpec := { _root_.Go.OpenSpec.ofChange s with cond := some uptoSmall }

/-- 'litmuslaw.Labels', WHERE WHAT IT READS IS OF BULK AT MOST 1048576: true; the input reads as it did. -/
def labelsUptoRow : OpenClaim := { program := "ytokfiflflcfidabdoor", sum := "981f3a0e045b528122052f3c6a62c67178a9d3a25d403a6c6765cdcce68de746", func := "litmus/litmuslaw.Labels", spec := "labels", named := ["litmus/litmus.edgeNames", "litmus/litmusref.starts", "litmus/litmusref.ends", "litmus/litmusref.names"], apart := false, laid := [("litmus/litmus.edgeNames", laid_litmus_litmus_edgeNames), ("litmus/litmusref.names", laid_litmus_litmusref_names), ("litmus/litmusref.starts", laid_litmus_litmusref_starts), ("litmus/litmusref.ends", laid_litmus_litmusref_ends)], narrowed := true }
def LabelsUptoSaid : Prop := labelsUptoRow.holds Tryd.pinned (OpenSpec.upto labelsSpec)

/-- 'litmuslaw.Never', WHERE WHAT IT READS IS OF BULK AT MOST 1048576: true; the input reads as it did. -/
def neverUptoRow : OpenClaim := { program := "ytokfiflflcfidabdoor", sum := "981f3a0e045b528122052f3c6a62c67178a9d3a25d403a6c6765cdcce68de746", func := "litmus/litmuslaw.Never", spec := "never", named := ["litmus/litmusref.starts", "litmus/litmusref.ends", "litmus/litmusref.names", "litmus/litmus.edgeNames"], apart := false, laid := [("litmus/litmus.edgeNames", laid_litmus_litmus_edgeNames), ("litmus/litmusref.names", laid_litmus_litmusref_names), ("litmus/litmusref.starts", laid_litmus_litmusref_starts), ("litmus/litmusref.ends", laid_litmus_litmusref_ends)], narrowed := true }
def NeverUptoSaid : Prop := neverUptoRow.holds Tryd.pinned (OpenSpec.upto neverSpec)

/-- 'litmuslaw.Forbids', WHERE WHAT IT READS IS OF BULK AT MOST 1048576: true; the input reads as it did. -/
def forbidsUptoRow : OpenClaim := { program := "ytokfiflflcfidabdoor", sum := "981f3a0e045b528122052f3c6a62c67178a9d3a25d403a6c6765cdcce68de746", func := "litmus/litmuslaw.Forbids", spec := "forbids", named := ["litmus/litmusref.starts", "litmus/litmusref.ends", "litmus/litmusref.names", "litmus/litmus.edgeNames"], apart := false, laid := [("litmus/litmus.edgeNames", laid_litmus_litmus_edgeNames), ("litmus/litmusref.names", laid_litmus_litmusref_names), ("litmus/litmusref.starts", laid_litmus_litmusref_starts), ("litmus/litmusref.ends", laid_litmus_litmusref_ends)], narrowed := true }
def ForbidsUptoSaid : Prop := forbidsUptoRow.holds Tryd.pinned (OpenSpec.upto forbidsSpec)

/-- 'litmuslaw.Shows', WHERE WHAT IT READS IS OF BULK AT MOST 1048576: true; the input reads as it did. -/
def showsUptoRow : OpenClaim := { program := "ytokfiflflcfidabdoor", sum := "981f3a0e045b528122052f3c6a62c67178a9d3a25d403a6c6765cdcce68de746", func := "litmus/litmuslaw.Shows", spec := "shows", named := ["litmus/litmus.edgeNames", "litmus/litmusref.starts", "litmus/litmusref.ends", "litmus/litmusref.names"], apart := false, laid := [("litmus/litmus.edgeNames", laid_litmus_litmus_edgeNames), ("litmus/litmusref.names", laid_litmus_litmusref_names), ("litmus/litmusref.starts", laid_litmus_litmusref_starts), ("litmus/litmusref.ends", laid_litmus_litmusref_ends)], narrowed := true }
def ShowsUptoSaid : Prop := showsUptoRow.holds Tryd.pinned (OpenSpec.upto showsSpec)

/-- 'litmuslaw.Firm', WHERE WHAT IT READS IS OF BULK AT MOST 1048576: true; the input reads as it did. -/
def firmUptoRow : OpenClaim := { program := "ytokfiflflcfidabdoor", sum := "981f3a0e045b528122052f3c6a62c67178a9d3a25d403a6c6765cdcce68de746", func := "litmus/litmuslaw.Firm", spec := "firm", named := ["litmus/litmusref.starts", "litmus/litmusref.ends", "litmus/litmusref.names", "litmus/litmus.edgeNames"], apart := false, laid := [("litmus/litmus.edgeNames", laid_litmus_litmus_edgeNames), ("litmus/litmusref.names", laid_litmus_litmusref_names), ("litmus/litmusref.starts", laid_litmus_litmusref_starts), ("litmus/litmusref.ends", laid_litmus_litmusref_ends)], narrowed := true }
def FirmUptoSaid : Prop := firmUptoRow.holds Tryd.pinned (OpenSpec.upto firmSpec)

/-- 'litmuslaw.Same', WHERE WHAT IT READS IS OF BULK AT MOST 1048576: true; the input reads as it did. -/
def sameUptoRow : OpenClaim := { program := "ytokfiflflcfidabdoor", sum := "981f3a0e045b528122052f3c6a62c67178a9d3a25d403a6c6765cdcce68de746", func := "litmus/litmuslaw.Same", spec := "same", named := ["litmus/litmus.edgeNames", "litmus/litmusref.names"], apart := false, laid := [("litmus/litmus.edgeNames", laid_litmus_litmus_edgeNames), ("litmus/litmusref.names", laid_litmus_litmusref_names)], narrowed := true }
def SameUptoSaid : Prop := sameUptoRow.holds Tryd.pinned (OpenSpec.upto sameSpec)

end Rows
end Go.Proofs.YtokfiflflcfidabDoor
