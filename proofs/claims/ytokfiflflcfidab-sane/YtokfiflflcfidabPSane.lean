import Derived.Test.YtokfiflflcfidabRows
import Derived.Test.YtokfiflflcfidabLawW
import Derived.Test.YtokfiflflcfidabPArg
import Derived.Test.YtokfiflflcfidabPTst
import Derived.ProofKit
import Derived.Stop.Joined
import Derived.OpenShut
import Derived.SizedLaws
import Derived.Deep.Frames
import Derived.WideKeyArgs
namespace Go.Proofs.Ytokfiflflcfidab
open Go.ChangeShapes Go.WideShapes Go.ChangeAt Go.ChangeMaps Go.RowKit

theorem Try.ownP : ownKnob Try.prog.godebug = none := by kernel_rfl
theorem Try.laidOutP : laidOutB Try.prog = true := by kernel_rfl

set_option maxRecDepth 100000 in
theorem sane_lifted (os : Os) (started : os.Started) (H : Type) (enc : TypeId × Value → H) :
    ReturnsInHanded {} Try.checked os 3 .any (Rows.saneSpec.pre6 enc Try.prog Try.f3 Rows.saneRow.domain false) (Rows.saneSpec.post enc Try.prog Try.f3 false true false false) := by
  refine returnsInHanded_of_change_sized (C := Try.checked) (s := Rows.saneSpec) Try.ownP started (by kernel_rfl) Try.func3
    (ChangeSpec.witness6 (enc := enc) (C := Try.checked) (s := Rows.saneSpec) false ⟨#[], #[.agg #[.string ⟨#[]⟩, .slice none 0 0, .slice none 0 0], .int .i64 0, .slice none 0 0], []⟩ 8 (by kernel_rfl) (by kernel_rfl) (by kernel_rfl) (by kernel_rfl)) ?_
  intro W base args ds gs before hval0 hW _ _ _
  have hval : ∀ (j : Nat) t v, Try.f3.params[j]? = some t → args[j]? = some v → Value.okWide Try.prog W .any base t v := hval0
  have hW' := hW
  obtain ⟨p, q, hA0, hV, rfl, hfz, hnd⟩ := hW
  have hA : DataW.TrodAll enc Try.prog W 0 (fun _ => true) true Try.f3.params.toList args.toList ds p := hA0
  rw [Try.params3] at hA hval
  obtain ⟨v0, v1, v2, d0, d1, d2, p0, p1, p2, rfl, rfl, rfl, h0, h1, h2⟩ := trodAll_three hA
  obtain ⟨rfl, rfl⟩ := trodVars_none hV
  obtain ⟨cs, rfl, _⟩ := okWide_struct Try.underlying25 (hval 0 25 v0 rfl rfl)
  obtain ⟨fu, hf0⟩ := id h0
  obtain ⟨nv, cv, wv, code, want, hcs, hnv, hC, hWt, hSz, hmap0⟩ := open_test hf0
  obtain rfl : cs = #[.string nv, cv, wv] := by
    apply Array.toList_inj.1
    simpa [Value.cells] using hcs
  obtain ⟨mo, rfl, rfl, rfl, wmo⟩ := open_int Try.underlying3 (hval 1 3 v1 rfl rfl) h1
  obtain ⟨script, hscr, hslen, hmap⟩ := open_scr (hval 2 26 v2 rfl rfl) h2
  clear hA0 hval0
  simp only [List.append_nil] at hW'
  have hlt : ∀ x ∈ p0 ++ p2, x.block < W.heap.size := fun x hx => by simpa using hW'.lt x (by simpa using hx)
  refine (sane_any nv cv wv v2 code want script mo W hC hWt hnv hscr).mono fun e W' ⟨he, hb⟩ => ?_
  subst he
  have ARG0 : DataW.Trod enc Try.prog W' 0 (fun x => decide (x < W.heap.size)) true 25 (.agg #[.string nv, cv, wv]) d0 p0 :=
    WideElems.Trod_stays Try.laidOutP (by kernel_rfl) (of_decide_eq_true (by kernel_rfl)) h0
      (fun x hx => (hb.frame (fun _ => False)).sameAt (hlt x (List.mem_append_left _ hx)) (fun hm => hm) (fun bb e => absurd e (hmap0 x hx bb)))
      (fun x hx => by simpa using hlt x (List.mem_append_left _ hx))
  have ARG2 : DataW.Trod enc Try.prog W' 0 (fun x => decide (x < W.heap.size)) true 26 v2 d2 p2 :=
    WideElems.Trod_stays Try.laidOutP (by kernel_rfl) (of_decide_eq_true (by kernel_rfl)) h2
      (fun x hx => (hb.frame (fun _ => False)).sameAt (hlt x (List.mem_append_right _ hx)) (fun hm => hm) (fun bb e => absurd e (hmap x hx bb)))
      (fun x hx => by simpa using hlt x (List.mem_append_right _ hx))
  refine ⟨_, rfl, _, _, _, [], p0 ++ ([] ++ p2), [], hW', trodAll_mk1 (shut_bool Try.underlying4 _), trodAll_mk3 ARG0 (shut_int Try.underlying3 wmo) ARG2, rfl, hb.frame _, fun h => by cases h⟩

theorem sane_holds : Rows.SaneSaid :=
  OpenClaim.holds_of_wide 3 Try.f3 rfl rfl rfl rfl rfl rfl rfl ⟨rfl, rfl, rfl, rfl, rfl⟩ rfl rfl rfl rfl rfl (by kernel_rfl) Try.func3 (by kernel_rfl)
    (of_decide_eq_true (by kernel_rfl)) (by unfold Func.isWrapper; first | (rw [if_pos (by decide +kernel)]; kernel_rfl) | (rw [if_neg (by decide +kernel)]; exact ⟨rfl, rfl⟩))
    (fun os started H enc _ => sane_lifted os started H enc)
#print axioms sane_holds
end Go.Proofs.Ytokfiflflcfidab
