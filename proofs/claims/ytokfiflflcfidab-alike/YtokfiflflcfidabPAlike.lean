import Derived.Test.YtokfiflflcfidabRows
import Derived.Test.YtokfiflflcfidabLawAl
import Derived.Test.YtokfiflflcfidabPTst
import Derived.Test.YtokfiflflcfidabPArg
import Derived.Deep.Slices
import Derived.Deep.Strs
import Derived.Lib.SmallJoins
import Derived.ProofKit
import Derived.Stop.Joined
import Derived.OpenShut
import Derived.SizedLaws
import Derived.Deep.Frames
import Derived.WideKeyArgs
namespace Go.Proofs.Ytokfiflflcfidab
open Go.ChangeShapes Go.WideShapes Go.ChangeAt Go.ChangeMaps Go.RowKit Go.Deep Go.Joins

theorem Try.ownP : ownKnob Try.prog.godebug = none := by kernel_rfl
theorem Try.laidOutP : laidOutB Try.prog = true := by kernel_rfl

section
variable {H : Type} {enc : TypeId × Value → H} {W : World} {spare : Nat → Bool} {held : Bool} {fuel : Nat} {x : DataW H × List MemPlace}
set_option maxRecDepth 100000 in
/-- a row of an argument is not longer than its room -/
theorem open_caps {nv : ByteArray} {cv wv : Value} (h : DataW.trod enc Try.prog W 0 spare held fuel 25 [.string nv, cv, wv] = some x) :
    ∀ b off n cap, cv = .slice (some ⟨b, off, none⟩) n cap → ∀ k, k < n → ∀ a m c, W.cell? ⟨b, off + k, none⟩ = some (.slice a m c) → m ≤ c := by
  obtain ⟨y0, y1, y2, n, rfl, hl, h0, h1, h2⟩ := trod_struct3 Try.underlying25 h
  simp only [Try.cellsStr, Try.cellsRInsss, Try.cellsRClaims, List.drop, List.take] at h0 h1 h2
  intro b off n cap hcv k hk a m c hc
  rcases open_slice1 Try.underlying22 Try.cellsRInss h1 with ⟨hcs, _⟩ | ⟨a', len, cap', m', n', V, D, Pl, hcs, _, hl', hm, hmm, _, hx⟩
  · simp only [List.cons.injEq, and_true] at hcs
    rw [hcv] at hcs
    cases hcs
  · simp only [List.cons.injEq, and_true] at hcs
    rw [hcv] at hcs
    injection hcs with q1 q2 q3
    injection q1 with q1
    subst q1 q2
    have hlm : n ≤ m' := by rw [hmm]; split <;> omega
    obtain ⟨hc1, hc2⟩ := hx k (by omega)
    rw [addr_plus, hc] at hc1
    injection hc1 with hc1
    rw [← hc1] at hc2
    rcases open_slice Try.underlying45 hc2 with ⟨he, _⟩ | ⟨a2, len2, cap2, _, _, _, _, he, _, hl2, _⟩
    · simp only [List.cons.injEq, and_true] at he
      injection he with _ e2 e3
      omega
    · simp only [List.cons.injEq, and_true] at he
      injection he with _ e2 e3
      omega
end

set_option maxRecDepth 100000 in
theorem alike_lifted (os : Os) (started : os.Started) (H : Type) (enc : TypeId × Value → H) :
    ReturnsInHanded {} Try.checked os 4 .any (Rows.alikeSpec.pre6 enc Try.prog Try.f4 Rows.alikeRow.domain false) (Rows.alikeSpec.post enc Try.prog Try.f4 false true false false) := by
  refine returnsInHanded_of_change_sized (C := Try.checked) (s := Rows.alikeSpec) Try.ownP started (by kernel_rfl) Try.func4
    (ChangeSpec.witness6 (enc := enc) (C := Try.checked) (s := Rows.alikeSpec) false ⟨#[], #[.agg #[.string ⟨#[]⟩, .slice none 0 0, .slice none 0 0], .slice none 0 0], []⟩ 8 (by kernel_rfl) (by kernel_rfl) (by kernel_rfl) (by kernel_rfl)) ?_
  intro W base args ds gs before hval0 hW _ _ _
  have hval : ∀ (j : Nat) t v, Try.f4.params[j]? = some t → args[j]? = some v → Value.okWide Try.prog W .any base t v := hval0
  have hW' := hW
  obtain ⟨p, q, hA0, hV, rfl, hfz, hnd⟩ := hW
  have hA : DataW.TrodAll enc Try.prog W 0 (fun _ => true) true Try.f4.params.toList args.toList ds p := hA0
  rw [Try.params4] at hA hval
  obtain ⟨v0, v2, d0, d2, p0, p2, rfl, rfl, rfl, h0, h2⟩ := trodAll_two hA
  obtain ⟨rfl, rfl⟩ := trodVars_none hV
  obtain ⟨cs, rfl, _⟩ := okWide_struct Try.underlying25 (hval 0 25 v0 rfl rfl)
  obtain ⟨fu, hf0⟩ := id h0
  obtain ⟨nv, cv, wv, code, want, hcs, hnv, hC, hWt, hSz, hmap0⟩ := open_test hf0
  obtain rfl : cs = #[.string nv, cv, wv] := by
    apply Array.toList_inj.1
    simpa [Value.cells] using hcs
  have hcaps := open_caps (nv := nv) (cv := cv) (wv := wv) (by rw [← hcs]; exact hf0)
  obtain ⟨script, hscr, hslen, hmap⟩ := open_scr (hval 1 26 v2 rfl rfl) h2
  clear hA0 hval0
  simp only [List.append_nil] at hW'
  have hlt : ∀ x ∈ p0 ++ p2, x.block < W.heap.size := fun x hx => by simpa using hW'.lt x (by simpa using hx)
  refine (alike_any nv cv wv v2 code want script W hC hWt hnv hscr hslen (fun b off cap he k hk a n c hc => hcaps b off code.length cap he k hk a n c hc)).mono fun e W' ⟨he, hb⟩ => ?_
  subst he
  have ARG0 : DataW.Trod enc Try.prog W' 0 (fun x => decide (x < W.heap.size)) true 25 (.agg #[.string nv, cv, wv]) d0 p0 :=
    WideElems.Trod_stays Try.laidOutP (by kernel_rfl) (of_decide_eq_true (by kernel_rfl)) h0
      (fun x hx => (hb.frame (fun _ => False)).sameAt (hlt x (List.mem_append_left _ hx)) (fun hm => hm) (fun bb e => absurd e (hmap0 x hx bb)))
      (fun x hx => by simpa using hlt x (List.mem_append_left _ hx))
  have ARG2 : DataW.Trod enc Try.prog W' 0 (fun x => decide (x < W.heap.size)) true 26 v2 d2 p2 :=
    WideElems.Trod_stays Try.laidOutP (by kernel_rfl) (of_decide_eq_true (by kernel_rfl)) h2
      (fun x hx => (hb.frame (fun _ => False)).sameAt (hlt x (List.mem_append_right _ hx)) (fun hm => hm) (fun bb e => absurd e (hmap x hx bb)))
      (fun x hx => by simpa using hlt x (List.mem_append_right _ hx))
  refine ⟨_, rfl, _, _, _, [], p0 ++ p2, [], hW', trodAll_mk1 (shut_bool Try.underlying4 _), trodAll_mk2 ARG0 ARG2, rfl, hb.frame _, fun h => by cases h⟩

theorem alike_holds : Rows.AlikeSaid :=
  OpenClaim.holds_of_wide 4 Try.f4 rfl rfl rfl rfl rfl rfl rfl ⟨rfl, rfl, rfl, rfl, rfl⟩ rfl rfl rfl rfl rfl (by kernel_rfl) Try.func4 (by kernel_rfl)
    (of_decide_eq_true (by kernel_rfl)) (by unfold Func.isWrapper; first | (rw [if_pos (by decide +kernel)]; kernel_rfl) | (rw [if_neg (by decide +kernel)]; exact ⟨rfl, rfl⟩))
    (fun os started H enc _ => alike_lifted os started H enc)
#print axioms alike_holds
end Go.Proofs.Ytokfiflflcfidab
