import Derived.Test.YtokfiflflcfidabRows
import Derived.Test.YtokfiflflcfidabScr
import Derived.ProofKit
import Derived.OpenShut
import Derived.Deep.Frames
import Derived.WideKeyArgs
namespace Go.Proofs.Ytokfiflflcfidab
open Go.ChangeShapes Go.WideShapes Go.ChangeAt Go.RowKit

theorem Try.cellsInt : Try.prog.cellsOf 3 = 1 := by kernel_rfl

theorem wf_int {n : Int} (h : (Lit.int .i64 n).wf = true) : -9223372036854775808 ≤ n ∧ n ≤ 9223372036854775807 := by
  simpa [Lit.wf, IntKind.min, IntKind.max, IntKind.bits, IntKind.signed] using h

set_option maxRecDepth 100000 in
theorem open_scr {H : Type} {enc : TypeId × Value → H} {W : World} {v : Value} {d : DataW H} {p : List MemPlace} {base : Nat} (hok : Value.okWide Try.prog W .any base 26 v)
    (h : DataW.Trod enc Try.prog W 0 (fun _ => true) true 26 v d p) : ∃ script : List Int, ScrRd W v script ∧ script.length ≤ 9223372036854775807 ∧ ∀ x ∈ p, ∀ bb, x ≠ .map bb := by
  obtain ⟨a0, len, cap, rfl⟩ := okWide_slice Try.underlying26 hok
  obtain ⟨fu, hf⟩ := h
  rcases open_ints Try.underlying26 Try.underlying3 Try.cellsInt hf with ⟨hcs, hx⟩ | ⟨a, len', cap', zs, hcs, _, hl, hm, hz, hx, hcell, hwz⟩
  · simp [Value.cells] at hcs
    obtain ⟨rfl, rfl, rfl⟩ := hcs
    simp only [Prod.mk.injEq] at hx
    obtain ⟨rfl, rfl⟩ := hx
    exact ⟨[], ⟨none, 0, rfl, fun i hi => by simp at hi⟩, by simp, by simp⟩
  · simp [Value.cells] at hcs
    obtain ⟨rfl, rfl, rfl⟩ := hcs
    simp only [Prod.mk.injEq] at hx
    obtain ⟨rfl, rfl⟩ := hx
    simp only [if_true] at hz
    have hcl : ∀ x ∈ MemPlace.row a zs.length, ∀ bb, x ≠ .map bb := fun x hx bb e => by
      obtain ⟨j, _, rfl⟩ := MemPlace.mem_row.1 hx
      cases e
    have htl : (zs.take len).length = len := by rw [List.length_take]; omega
    unfold maxLen at hm
    refine ⟨zs.take len, ⟨some a, cap, by rw [htl], fun i hi => ?_⟩, by rw [htl]; omega, hcl⟩
    rw [htl] at hi
    obtain ⟨b, o, spot⟩ := a
    have h0 := hcell 0 (by omega)
    have hspot : spot = none := by simpa [Addr.add] using World.cell?_spot h0
    subst hspot
    have hg : (zs.take len)[i]?.getD 0 = zs.getD i 0 := by rw [List.getElem?_take_of_lt hi]; rfl
    have hi' := hcell i (by omega)
    have hadd : (⟨b, o, none⟩ : Addr).add i = ⟨b, o + i, none⟩ := by unfold Addr.add; split <;> simp_all
    rw [hadd] at hi'
    have hlt := World.block_lt_of_cell? W _ hi'
    refine ⟨b, o, rfl, hlt, by rw [hg]; exact hi', ?_⟩
    rw [hg]
    apply wf_int
    apply hwz
    have : i < zs.length := by omega
    simp [List.getD, this]

end Go.Proofs.Ytokfiflflcfidab
