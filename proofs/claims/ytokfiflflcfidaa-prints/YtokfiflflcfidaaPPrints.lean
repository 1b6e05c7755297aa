import Derived.Test.YtokfiflflcfidaaRows
import Derived.Test.YtokfiflflcfidaaLawPr
import Derived.Test.YtokfiflflcfidaaPTst
import Derived.ProofKit
import Derived.Stop.Joined
import Derived.OpenShut
import Derived.SizedLaws
import Derived.Deep.Frames
import Derived.WideKeyArgs
namespace Go.Proofs.Ytokfiflflcfidaa
open Go.ChangeShapes Go.WideShapes Go.ChangeAt Go.ChangeMaps Go.RowKit

theorem Try.ownP : ownKnob Try.prog.godebug = none := by kernel_rfl
theorem Try.laidOutP : laidOutB Try.prog = true := by kernel_rfl

set_option maxRecDepth 100000 in
theorem prints_lifted (os : Os) (started : os.Started) (H : Type) (enc : TypeId × Value → H) :
    ReturnsInHanded {} Try.checked os 3 .any (Rows.printsSpec.pre6 enc Try.prog Try.f3 Rows.printsRow.domain false) (Rows.printsSpec.post enc Try.prog Try.f3 false true false false) := by
  refine returnsInHanded_of_change_sized (C := Try.checked) (s := Rows.printsSpec) Try.ownP started (by kernel_rfl) Try.func3
    (ChangeSpec.witness6 (enc := enc) (C := Try.checked) (s := Rows.printsSpec) false ⟨#[], #[.agg #[.string ⟨#[]⟩, .slice none 0 0, .slice none 0 0]], []⟩ 8 (by kernel_rfl) (by kernel_rfl) (by kernel_rfl) (by kernel_rfl)) ?_
  intro W base args ds gs before hval0 hW _ hsz _
  have hval : ∀ (j : Nat) t v, Try.f3.params[j]? = some t → args[j]? = some v → Value.okWide Try.prog W .any base t v := hval0
  have hW' := hW
  obtain ⟨p, q, hA0, hV, rfl, hfz, hnd⟩ := hW
  have hA : DataW.TrodAll enc Try.prog W 0 (fun _ => true) true Try.f3.params.toList args.toList ds p := hA0
  rw [Try.params3] at hA hval
  obtain ⟨v0, d0, rfl, rfl, h0⟩ := trodAll_one hA
  obtain ⟨rfl, rfl⟩ := trodVars_none hV
  obtain ⟨cs, rfl, _⟩ := okWide_struct Try.underlying25 (hval 0 25 v0 rfl rfl)
  obtain ⟨fu, hf0⟩ := id h0
  obtain ⟨nv, cv, wv, code, want, hcs, hnv, hC, hWt, hSz, hmap0⟩ := open_test hf0
  obtain rfl : cs = #[.string nv, cv, wv] := by
    apply Array.toList_inj.1
    simpa [Value.cells] using hcs
  have hS3 := hSz (fun n hn => by
    have hm := DataW.weights_mem_each (P := Try.prog) (ts := Try.f3.params.toList ++ Rows.printsSpec.plain.varTypes Try.prog) (ds := [d0] ++ []) (j := 0) (t := 25) (by rw [Try.params3]; rfl) rfl n hn
    simpa using List.all_eq_true.1 hsz n hm)
  unfold reachBytes at hS3
  clear hA0 hval0 hsz
  simp only [List.append_nil] at hW'
  have hlt : ∀ x ∈ p, x.block < W.heap.size := fun x hx => by simpa using hW'.lt x (by simpa using hx)
  refine (prints_any nv cv wv code want W hC hWt hnv (by omega) (fun k => by have := hS3.2.1 k; omega) (by omega)).mono fun e W' ⟨he, hb⟩ => ?_
  subst he
  have ARG0 : DataW.Trod enc Try.prog W' 0 (fun x => decide (x < W.heap.size)) true 25 (.agg #[.string nv, cv, wv]) d0 p :=
    WideElems.Trod_stays Try.laidOutP (by kernel_rfl) (of_decide_eq_true (by kernel_rfl)) h0
      (fun x hx => (hb.frame (fun _ => False)).sameAt (hlt x hx) (fun hm => hm) (fun bb e => absurd e (hmap0 x hx bb)))
      (fun x hx => by simpa using hlt x hx)
  refine ⟨_, rfl, _, _, _, [], p, [], hW', trodAll_mk1 (shut_bool Try.underlying4 _), trodAll_mk1 ARG0, rfl, hb.frame _, fun h => by cases h⟩

theorem prints_holds : Rows.PrintsSaid :=
  OpenClaim.holds_of_wide 3 Try.f3 rfl rfl rfl rfl rfl rfl rfl ⟨rfl, rfl, rfl, rfl, rfl⟩ rfl rfl rfl rfl rfl (by kernel_rfl) Try.func3 (by kernel_rfl)
    (of_decide_eq_true (by kernel_rfl)) (by unfold Func.isWrapper; first | (rw [if_pos (by decide +kernel)]; kernel_rfl) | (rw [if_neg (by decide +kernel)]; exact ⟨rfl, rfl⟩))
    (fun os started H enc _ => prints_lifted os started H enc)
#print axioms prints_holds
end Go.Proofs.Ytokfiflflcfidaa
