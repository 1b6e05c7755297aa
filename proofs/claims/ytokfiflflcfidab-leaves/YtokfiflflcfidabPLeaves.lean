import Derived.Test.YtokfiflflcfidabRows
import Derived.Test.YtokfiflflcfidabLawLv
import Derived.Test.YtokfiflflcfidabPTst
import Derived.Test.YtokfiflflcfidabPArg
import Derived.ProofKit
import Derived.Stop.Joined
import Derived.OpenShut
import Derived.SizedLaws
import Derived.Deep.Frames
import Derived.WideKeyArgs
namespace Go.Proofs.Ytokfiflflcfidab
open Go.ChangeShapes Go.WideShapes Go.ChangeAt Go.ChangeMaps Go.RowKit

theorem Try.ownP : ownKnob Try.prog.godebug = none := by kernel_rfl
theorem Try.laidOutP : laidOutB Try.prog = true := by kernel_rfl
theorem Try.bytesIntS : Try.prog.bytesOf 3 = 8 := by kernel_rfl

set_option maxRecDepth 100000 in
theorem open_scrS {H : Type} {enc : TypeId × Value → H} {W : World} {v : Value} {d : DataW H} {p : List MemPlace} {base : Nat} (hok : Value.okWide Try.prog W .any base 26 v)
    (h : DataW.Trod enc Try.prog W 0 (fun _ => true) true 26 v d p) : ∃ script : List Int, ScrRd W v script ∧ (Sized Try.prog 26 d → script.length * 8 ≤ reachBytes) ∧ ∀ x ∈ p, ∀ bb, x ≠ .map bb := by
  obtain ⟨a0, len, cap, rfl⟩ := okWide_slice Try.underlying26 hok
  obtain ⟨fu, hf⟩ := h
  rcases open_ints Try.underlying26 Try.underlying3 Try.cellsInt hf with ⟨hcs, hx⟩ | ⟨a, len', cap', zs, hcs, _, hl, hm, hz, hx, hcell, hwz⟩
  · simp [Value.cells] at hcs
    obtain ⟨rfl, rfl, rfl⟩ := hcs
    simp only [Prod.mk.injEq] at hx
    obtain ⟨rfl, rfl⟩ := hx
    exact ⟨[], ⟨none, 0, rfl, fun i hi => by simp at hi⟩, fun _ => by simp, by simp⟩
  · simp [Value.cells] at hcs
    obtain ⟨rfl, rfl, rfl⟩ := hcs
    simp only [Prod.mk.injEq] at hx
    obtain ⟨rfl, rfl⟩ := hx
    simp only [if_true] at hz
    have hcl : ∀ x ∈ MemPlace.row a zs.length, ∀ bb, x ≠ .map bb := fun x hx bb e => by
      obtain ⟨j, _, rfl⟩ := MemPlace.mem_row.1 hx
      cases e
    have htl : (zs.take len).length = len := by rw [List.length_take]; omega
    refine ⟨zs.take len, ⟨some a, cap, by rw [htl], fun i hi => ?_⟩, fun hz2 => ?_, hcl⟩
    · rw [htl] at hi
      obtain ⟨b, o, spot⟩ := a
      have h0 := hcell 0 (by omega)
      have hspot : spot = none := by simpa [Addr.add] using World.cell?_spot h0
      subst hspot
      have hg : (zs.take len)[i]?.getD 0 = zs.getD i 0 := by rw [List.getElem?_take_of_lt hi]; rfl
      have hi' := hcell i (by omega)
      have hadd : (⟨b, o, none⟩ : Addr).add i = ⟨b, o + i, none⟩ := by unfold Addr.add; split <;> simp_all
      rw [hadd] at hi'
      have hlt := World.block_lt_of_cell? W _ hi'
      refine ⟨b, o, rfl, hlt, by rw [hg]; exact hi', ?_⟩
      rw [hg]
      apply wf_int
      apply hwz
      have : i < zs.length := by omega
      simp [List.getD, this]
    · rw [htl]
      have := hz2 ((len + (zs.length - len)) * 8) (by simp [DataW.weights, Try.underlying26, Try.bytesIntS, lits]; omega)
      omega

set_option maxRecDepth 100000 in
theorem leaves_lifted (os : Os) (started : os.Started) (H : Type) (enc : TypeId × Value → H) :
    ReturnsInHanded {} Try.checked os 5 .any (Rows.leavesSpec.pre6 enc Try.prog Try.f5 Rows.leavesRow.domain false) (Rows.leavesSpec.post enc Try.prog Try.f5 false true false false) := by
  refine returnsInHanded_of_change_sized (C := Try.checked) (s := Rows.leavesSpec) Try.ownP started (by kernel_rfl) Try.func5
    (ChangeSpec.witness6 (enc := enc) (C := Try.checked) (s := Rows.leavesSpec) false ⟨#[], #[.agg #[.string ⟨#[]⟩, .slice none 0 0, .slice none 0 0], .int .i64 0, .slice none 0 0], []⟩ 8 (by kernel_rfl) (by kernel_rfl) (by kernel_rfl) (by kernel_rfl)) ?_
  intro W base args ds gs before hval0 hW _ hsz _
  have hval : ∀ (j : Nat) t v, Try.f5.params[j]? = some t → args[j]? = some v → Value.okWide Try.prog W .any base t v := hval0
  have hW' := hW
  obtain ⟨p, q, hA0, hV, rfl, hfz, hnd⟩ := hW
  have hA : DataW.TrodAll enc Try.prog W 0 (fun _ => true) true Try.f5.params.toList args.toList ds p := hA0
  rw [Try.params5] at hA hval
  obtain ⟨v0, v1, v2, d0, d1, d2, p0, p1, p2, rfl, rfl, rfl, h0, h1, h2⟩ := trodAll_three hA
  obtain ⟨rfl, rfl⟩ := trodVars_none hV
  obtain ⟨cs, rfl, _⟩ := okWide_struct Try.underlying25 (hval 0 25 v0 rfl rfl)
  obtain ⟨fu, hf0⟩ := id h0
  obtain ⟨nv, cv, wv, code, want, hcs, hnv, hC, hWt, hSz, hmap0⟩ := open_test hf0
  obtain rfl : cs = #[.string nv, cv, wv] := by
    apply Array.toList_inj.1
    simpa [Value.cells] using hcs
  obtain ⟨mo, rfl, rfl, rfl, wmo⟩ := open_int Try.underlying3 (hval 1 3 v1 rfl rfl) h1
  obtain ⟨script, hscr, hsl0, hmap⟩ := open_scrS (hval 2 26 v2 rfl rfl) h2
  have hS3 := hSz (fun n hn => by
    have hm := DataW.weights_mem_each (P := Try.prog) (ts := Try.f5.params.toList ++ Rows.leavesSpec.plain.varTypes Try.prog) (ds := [d0, .lit (.int .i64 mo), d2] ++ []) (j := 0) (t := 25) (by rw [Try.params5]; rfl) rfl n hn
    simpa using List.all_eq_true.1 hsz n hm)
  have hslen := hsl0 (fun n hn => by
    have hm := DataW.weights_mem_each (P := Try.prog) (ts := Try.f5.params.toList ++ Rows.leavesSpec.plain.varTypes Try.prog) (ds := [d0, .lit (.int .i64 mo), d2] ++ []) (j := 2) (t := 26) (by rw [Try.params5]; rfl) rfl n hn
    simpa using List.all_eq_true.1 hsz n hm)
  unfold reachBytes at hS3 hslen
  clear hA0 hval0 hsz
  simp only [List.append_nil] at hW'
  have hlt : ∀ x ∈ p0 ++ p2, x.block < W.heap.size := fun x hx => by simpa using hW'.lt x (by simpa using hx)
  refine (leaves_any nv cv wv v2 code want script mo W hC hWt hnv hscr (by omega) (by omega) (fun k => by have := hS3.2.1 k; omega) (by omega)).mono fun e W' ⟨he, hb⟩ => ?_
  subst he
  have ARG0 : DataW.Trod enc Try.prog W' 0 (fun x => decide (x < W.heap.size)) true 25 (.agg #[.string nv, cv, wv]) d0 p0 :=
    WideElems.Trod_stays Try.laidOutP (by kernel_rfl) (of_decide_eq_true (by kernel_rfl)) h0
      (fun x hx => (hb.frame (fun _ => False)).sameAt (hlt x (List.mem_append_left _ hx)) (fun hm => hm) (fun bb e => absurd e (hmap0 x hx bb)))
      (fun x hx => by simpa using hlt x (List.mem_append_left _ hx))
  have ARG2 : DataW.Trod enc Try.prog W' 0 (fun x => decide (x < W.heap.size)) true 26 v2 d2 p2 :=
    WideElems.Trod_stays Try.laidOutP (by kernel_rfl) (of_decide_eq_true (by kernel_rfl)) h2
      (fun x hx => (hb.frame (fun _ => False)).sameAt (hlt x (List.mem_append_right _ hx)) (fun hm => hm) (fun bb e => absurd e (hmap x hx bb)))
      (fun x hx => by simpa using hlt x (List.mem_append_right _ hx))
  refine ⟨_, rfl, _, _, _, [], p0 ++ ([] ++ p2), [], hW', trodAll_mk1 (shut_bool Try.underlying4 _), trodAll_mk3 ARG0 (shut_int Try.underlying3 wmo) ARG2, rfl, hb.frame _, fun h => by cases h⟩

theorem leaves_holds : Rows.LeavesSaid :=
  OpenClaim.holds_of_wide 5 Try.f5 rfl rfl rfl rfl rfl rfl rfl ⟨rfl, rfl, rfl, rfl, rfl⟩ rfl rfl rfl rfl rfl (by kernel_rfl) Try.func5 (by kernel_rfl)
    (of_decide_eq_true (by kernel_rfl)) (by unfold Func.isWrapper; first | (rw [if_pos (by decide +kernel)]; kernel_rfl) | (rw [if_neg (by decide +kernel)]; exact ⟨rfl, rfl⟩))
    (fun os started H enc _ => leaves_lifted os started H enc)
#print axioms leaves_holds
end Go.Proofs.Ytokfiflflcfidab
