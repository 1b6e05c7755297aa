/-
  No cell of these rows narrows 'for every input' (looked for: loops, veiled, ifaces, maps, wideKeys, modest, calm, conditions, laid).
  DERIVED. THE GIVEN ROWS OF THIS SEAT. 3 by the template 'for every input the law returns true; each argument reads behind the call as it read before'; 0 by the template 'total and deterministic' (their statements: YtokfiflflcfidabTotals.lean).
  GIVEN WITH THE SEED: the statements are not yours to turn. If you find one false, say at which input.
  Laid BY PROGRAM, IN A SANDBOX (cutbox-rows.mjs): the forced cells as the released guide's own fill.sh prints them over the translation c2a3b2062a4702f9… (all of the seat's roots in one cut). By AI agents, Wed Nov 11 2026. No macro, syntax, notation, axiom, sorry.
-/
import Derived.Test.YtokfiflflcfidabChecked
import GoSem.Claim
import GoSem.ClaimJoined
import GoSem.ClaimMapViews
import Derived.JoinedTies
import Derived.KernelRfl
namespace Go.Proofs.Ytokfiflflcfidab
/- THE CELL 'sum', in the pinned program and in every row, IS THE sha256 OF THE DUMP (.gsa) THAT YtokfiflflcfidabProg.lean LOADS. Nothing in Lean hashes anything: it is a label: what it is worth is what the hold of that sum in a sandbox is worth. -/
noncomputable def Try.pinned : Pinned := { name := "ytokfiflflcfidab", sum := "c2a3b2062a4702f941d4047093b9f83c6b1d59c81a8cd6b40e294a195efb249a", checked := Try.checked }
namespace Rows
def none {H : Type} : Left H := { results := [], args := [] }

/-- 'litmuslaw.Sane': WHATEVER THE INPUT: true; the input reads as it did. -/
def saneSpec : ChangeSpec := { name := "sane", fn := fun _ => fun
  | [d1, d2, d3] => { results := [.lit (.bool true)], args := [d1, d2, d3] }
  | _ => none }
def saneRow : OpenClaim := { program := "ytokfiflflcfidab", sum := "c2a3b2062a4702f941d4047093b9f83c6b1d59c81a8cd6b40e294a195efb249a", func := "litmus/litmuslaw.Sane", spec := "sane", apart := false }
def SaneSaid : Prop := saneRow.holds Try.pinned (OpenSpec.ofChange saneSpec)

/-- ITS FALSE NEIGHBOUR: 'it returns false'. Refute it at one input. -/
def saneWrong : ChangeSpec := { name := "sane", fn := fun _ => fun
  | [d1, d2, d3] => { results := [.lit (.bool false)], args := [d1, d2, d3] }
  | _ => none }
def SaneWrongFalsely : Prop := saneRow.holds Try.pinned (OpenSpec.ofChange saneWrong)

/-- 'litmuslaw.Alike': WHATEVER THE INPUT: true; the input reads as it did. -/
def alikeSpec : ChangeSpec := { name := "alike", fn := fun _ => fun
  | [d1, d2] => { results := [.lit (.bool true)], args := [d1, d2] }
  | _ => none }
def alikeRow : OpenClaim := { program := "ytokfiflflcfidab", sum := "c2a3b2062a4702f941d4047093b9f83c6b1d59c81a8cd6b40e294a195efb249a", func := "litmus/litmuslaw.Alike", spec := "alike", apart := false }
def AlikeSaid : Prop := alikeRow.holds Try.pinned (OpenSpec.ofChange alikeSpec)

/-- ITS FALSE NEIGHBOUR: 'it returns false'. Refute it at one input. -/
def alikeWrong : ChangeSpec := { name := "alike", fn := fun _ => fun
  | [d1, d2] => { results := [.lit (.bool false)], args := [d1, d2] }
  | _ => none }
def AlikeWrongFalsely : Prop := alikeRow.holds Try.pinned (OpenSpec.ofChange alikeWrong)

/-- 'litmuslaw.Leaves': WHATEVER THE INPUT: true; the input reads as it did. -/
def leavesSpec : ChangeSpec := { name := "leaves", fn := fun _ => fun
  | [d1, d2, d3] => { results := [.lit (.bool true)], args := [d1, d2, d3] }
  | _ => none }
def leavesRow : OpenClaim := { program := "ytokfiflflcfidab", sum := "c2a3b2062a4702f941d4047093b9f83c6b1d59c81a8cd6b40e294a195efb249a", func := "litmus/litmuslaw.Leaves", spec := "leaves", apart := false }
def LeavesSaid : Prop := leavesRow.holds Try.pinned (OpenSpec.ofChange leavesSpec)

/-- ITS FALSE NEIGHBOUR: 'it returns false'. Refute it at one input. -/
def leavesWrong : ChangeSpec := { name := "leaves", fn := fun _ => fun
  | [d1, d2, d3] => { results := [.lit (.bool false)], args := [d1, d2, d3] }
  | _ => none }
def LeavesWrongFalsely : Prop := leavesRow.holds Try.pinned (OpenSpec.ofChange leavesWrong)

/- THE SECOND FORM. 'bulk': how many values and letters a reading holds, each counted each time it is reached (what is shared counts as often as it is met; a slice's spare places count too). A statement '..UptoSaid' is the law's where the arguments, and the package variables that the reading takes, are together of bulk at most 1048576: NARROWER than '..Said'. Prove '..Said' where nothing that the law and all that it calls make is longer than what came in: it says more and counts as full. Else prove '..UptoSaid'. A law counts once. -/
mutual
def uptoBulk {H : Type} : DataW H → Nat
  | .lit (.string bytes) => bytes.length + 1
  | .lit _ => 1
  | .nil => 1
  | .ptr d => uptoBulk d + 1
  | .slice elems spare => uptoBulkAll elems + uptoBulkAll spare + 1
  | .agg parts => uptoBulkAll parts + 1
  | .iface _ d => uptoBulk d + 1
  | .map entries => uptoBulkEntries entries + 1
  | .held _ => 1
def uptoBulkAll {H : Type} : List (DataW H) → Nat
  | [] => 0
  | d :: r => uptoBulk d + uptoBulkAll r
def uptoBulkEntries {H : Type} : List (Lit × DataW H) → Nat
  | [] => 0
  | x :: r => uptoBulkEntry x + uptoBulkEntries r
def uptoBulkEntry {H : Type} : Lit × DataW H → Nat
  | (.string bytes, d) => bytes.length + uptoBulk d + 1
  | (_, d) => uptoBulk d + 1
 end
def uptoSmall : (H : Type) → List (DataW H) → Bool := fun _ ds => decide (uptoBulkAll ds ≤ 1048576)
def OpenSpec.upto (s : _root_.Go.ChangeSpec) : _root_.Go.OpenSpec := { _root_.Go.OpenSpec.ofChange s with cond := some uptoSmall }

/-- 'litmuslaw.Sane', WHERE WHAT IT READS IS OF BULK AT MOST 1048576: true; the input reads as it did. -/
def saneUptoRow : OpenClaim := { program := "ytokfiflflcfidab", sum := "c2a3b2062a4702f941d4047093b9f83c6b1d59c81a8cd6b40e294a195efb249a", func := "litmus/litmuslaw.Sane", spec := "sane", apart := false, narrowed := true }
def SaneUptoSaid : Prop := saneUptoRow.holds Try.pinned (OpenSpec.upto saneSpec)

/-- 'litmuslaw.Alike', WHERE WHAT IT READS IS OF BULK AT MOST 1048576: true; the input reads as it did. -/
def alikeUptoRow : OpenClaim := { program := "ytokfiflflcfidab", sum := "c2a3b2062a4702f941d4047093b9f83c6b1d59c81a8cd6b40e294a195efb249a", func := "litmus/litmuslaw.Alike", spec := "alike", apart := false, narrowed := true }
def AlikeUptoSaid : Prop := alikeUptoRow.holds Try.pinned (OpenSpec.upto alikeSpec)

/-- 'litmuslaw.Leaves', WHERE WHAT IT READS IS OF BULK AT MOST 1048576: true; the input reads as it did. -/
def leavesUptoRow : OpenClaim := { program := "ytokfiflflcfidab", sum := "c2a3b2062a4702f941d4047093b9f83c6b1d59c81a8cd6b40e294a195efb249a", func := "litmus/litmuslaw.Leaves", spec := "leaves", apart := false, narrowed := true }
def LeavesUptoSaid : Prop := leavesUptoRow.holds Try.pinned (OpenSpec.upto leavesSpec)

end Rows
end Go.Proofs.Ytokfiflflcfidab
