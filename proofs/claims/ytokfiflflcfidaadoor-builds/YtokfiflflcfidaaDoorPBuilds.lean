import Derived.Test.YtokfiflflcfidaaDoorRows
import Derived.Test.YtokfiflflcfidaaDoorSamW
import Derived.Test.YtokfiflflcfidaaDoorLawF
import Derived.WalkKit
import Derived.WalkSpells
import Derived.WalkLawsBesides
import Derived.Test.YtokfiflflcfidaaDoorCards
import Derived.Test.YtokfiflflcfidaaDoorTie
import Derived.Test.YtokfiflflcfidaaDoorLaid
import Derived.ProofKit
import Derived.LaidMore
import Derived.OpenShut
import Derived.Stop.Joined
import Derived.SevenTiedAt
namespace Go.Proofs.YtokfiflflcfidaaDoor
open Go.RowKit

theorem row3 {wr : World} {p T : Nat} {a b c : Value} (h : wr.heap[p]? = some (.cells #[a, b, c] T (0, 0))) : wr.cell? ⟨p, 0, none⟩ = some a ∧ wr.cell? ⟨p, 1, none⟩ = some b ∧ wr.cell? ⟨p, 2, none⟩ = some c := by
  refine ⟨?_, ?_, ?_⟩ <;> rw [cell_of_row _ _ _ _ _ _ h] <;> rfl

set_option maxRecDepth 100000 in
set_option maxHeartbeats 1600000 in
theorem builds_any (s : ByteArray) (hs : s.size ≤ 9223372036854775807) (w : World) (hT : TabN w) (hTR : TabR w) :
    Calls Tryd.prog 8 #[.string s] w fun r w' => r = .returned (.bool true) ∧ Below w.heap.size w w' := by
  go_enter Tryd.func8, Tryd.ntmps8
  go_wp2_with fail
  refine (build_any s hs _ hT).mono ?_
  rintro r w1 ⟨nv, cv, wv, rfl, hyes, hno, hb1⟩
  by_cases h0 : (rd s.data.toList).1 = 0
  · obtain ⟨hnv, hC1, hW1⟩ := hyes h0
    obtain ⟨hR, hlast, h16, hbl, hrl, hE, hpos⟩ := rd_ring h0
    have hL := hR.toLay
    have hz := rd_zero h0
    have HEV : Hid (eventsOf (baseL s.data.toList) = eventsL (ringL s.data.toList)) := rfl
    have HCT : Hid ((baseL s.data.toList).countP lT = (ringL s.data.toList).countP lT) := (ring_count lT (baseL s.data.toList) (by omega)).symm
    have HCC : Hid ((baseL s.data.toList).countP lC = (ringL s.data.toList).countP lC) := (ring_count lC (baseL s.data.toList) (by omega)).symm
    have hbr : (baseL s.data.toList).length = (ringL s.data.toList).length := by omega
    have HCS : Hid _ := codes_same hL hlast
    have HWS : Hid _ := want_same hL
    have hcl : (codeQ (ringL s.data.toList)).length ≤ 1000 := by
      simp [codeQ, codeOf]
      have : (ringL s.data.toList).countP lT ≤ (ringL s.data.toList).length := List.countP_le_length
      omega
    have hwl : (wantQ (ringL s.data.toList)).length ≤ 1000 := by
      unfold wantQ wantOf
      rw [List.length_map, List.length_append]
      have := wrTo_len (ringL s.data.toList) (ringL s.data.toList).length
      have := wcTo_len (ringL s.data.toList) ((ringL s.data.toList).countP lC)
      have hCle : (ringL s.data.toList).countP lC ≤ (ringL s.data.toList).length := List.countP_le_length
      omega
    have hrowl : ∀ k : Nat, ((codeQ (ringL s.data.toList))[k]?.getD []).length ≤ 1000 := by
      intro k
      by_cases hk : k < (ringL s.data.toList).countP lT
      · have h1 := cdTo_len (ringL s.data.toList) k (ringL s.data.toList).length
        simp [codeQ, codeOf, hk]
        omega
      · simp [codeQ, codeOf, hk]
    have hC0 : 0 < (baseL s.data.toList).countP lC := by rw [HCC.out]; exact hL.some
    have haf : ∀ i, i < (baseL s.data.toList).length → ((eventsOf (baseL s.data.toList))[i]?.getD ev0).af < 14 := by
      intro i hi
      rw [HEV.out, E_af hL (by omega)]
      exact getD_lt hR.small i
    have hel : (eventsOf (baseL s.data.toList)).length = (baseL s.data.toList).length := by rw [HEV.out, events_length]; omega
    obtain ⟨ca, cc, hcv, hC1'⟩ := hC1
    obtain ⟨wa, wc, hwv, hW1'⟩ := hW1
    obtain ⟨n3, hn3⟩ : ∃ n3, n3 = (codeQ (ringL s.data.toList)).length := ⟨_, rfl⟩
    obtain ⟨n4, hn4⟩ : ∃ n4, n4 = (wantQ (ringL s.data.toList)).length := ⟨_, rfl⟩
    rw [← hn3] at hcv
    rw [← hn4] at hwv
    subst hcv
    subst hwv
    have HC1 : Hid (Rd44 w.heap.size w1.heap.size w1 (.slice ca n3 cc) (codeQ (ringL s.data.toList))) := ⟨ca, cc, by rw [hn3], hC1'⟩
    have HW1 : Hid (Rd4 w.heap.size w1.heap.size w1 (.slice wa n4 wc) (wantQ (ringL s.data.toList))) := ⟨wa, wc, by rw [hn4], hW1'⟩
    have HN3 : Hid _ := hn3
    have HN4 : Hid _ := hn4
    have hbt : Below w1.heap.size w1 (w1.alloc (.cells #[.string nv, .slice ca n3 cc, .slice wa n4 wc] 45)) := (Below.refl _ _).alloc (Nat.le_refl _) _
    have hb1t : Below w.heap.size w (w1.alloc (.cells #[.string nv, .slice ca n3 cc, .slice wa n4 wc] 45)) := hb1.trans (hbt.mono hb1.size)
    have hrd := read_any s hs _ (hTR.kept hb1t)
    have H0 : Hid _ := h0
    have HZ : Hid _ := hz
    have HNV : Hid _ := hnv
    have HBR : Hid _ := hbr
    have HBL : Hid _ := hbl
    rw [h0, hz.1] at hrd ⊢
    have HRD : Hid _ := hrd
    have HB1T : Hid _ := hb1t
    have HBT : Hid _ := hbt
    have hbase : 0 < (baseL s.data.toList).length ∧ (baseL s.data.toList).length ≤ 64 := by omega
    clear hyes hno hC1' hW1' hn3 hn4 hnv hz h0 hrl hbl hbr hrd hbt hb1t
    go_wp2_with fail
    refine Calls.mono HRD.out ?_
    rintro r w2 ⟨v2, rfl, hyes2, _, hb2⟩
    obtain ⟨g, go, gc, hv2, hgl, hG⟩ := hyes2 (by trivial)
    have hgl2 : (edgesOf s.data.toList).length = (baseL s.data.toList).length := HBL.out.symm
    rw [hgl2] at hv2
    subst hv2
    have hs2 : w1.heap.size + 1 ≤ w2.heap.size := by have := hb2.size; simpa using this
    have hrow2 : w2.heap[w1.heap.size]? = some (.cells #[.string nv, .slice ca n3 cc, .slice wa n4 wc] 45 (0, 0)) := (hb2.block _ (by simp)).trans (heap_alloc_new w1 _)
    obtain ⟨t0, t1, t2⟩ := row3 hrow2
    have hC2 := Rd44.span (Rd44.span HC1.out (Span.of_below HBT.out (Nat.le_refl _))) (Span.of_below hb2 (by simp))
    have hW2 := Rd4.span (Rd4.span HW1.out (Span.of_below HBT.out (Nat.le_refl _))) (Span.of_below hb2 (by simp))
    have hgiv := given_any nv (.slice ca n3 cc) (.slice wa n4 wc) (codeQ (ringL s.data.toList)) (wantQ (ringL s.data.toList)) _ _ w2 hC2 hW2 (by omega) (by omega) (fun k => Nat.le_trans (hrowl k) (by omega)) (by omega)
    have HGIV : Hid _ := hgiv
    have HB2 : Hid (Below w.heap.size w w2) := HB1T.out.trans (hb2.mono HB1T.out.size)
    have HG : Hid (Arr w2 g go (baseL s.data.toList)) := hG
    clear hgiv hC2 hW2 hrow2 hyes2 hb2 hgl hgl2 HRD hG
    go_wp2_with (first | (go_at_call 13; refine (num_any _ _).mono ?_; rintro r w9 ⟨rfl, rfl⟩))
    refine Calls.mono HGIV.out ?_
    rintro r w3 ⟨cv3, wv3, rfl, hC3, hW3, hb3⟩
    obtain ⟨ca3, cc3, hcv3, hC3'⟩ := hC3
    obtain ⟨wa3, wc3, hwv3, hW3'⟩ := hW3
    rw [← HN3.out] at hcv3
    rw [← HN4.out] at hwv3
    subst hcv3
    subst hwv3
    have hs3 := hb3.size
    have hbu : Below w3.heap.size w3 (w3.alloc (.cells #[.string nv, .slice ca3 n3 cc3, .slice wa3 n4 wc3] 52)) := (Below.refl _ _).alloc (Nat.le_refl _) _
    have HC3 : Hid _ := Rd44.span (w := w3) (v := .slice ca3 n3 cc3) (c := codeQ (ringL s.data.toList)) ⟨ca3, cc3, by rw [HN3.out], hC3'⟩ (Span.of_below hbu (Nat.le_refl _))
    have HW3 : Hid _ := Rd4.span (w := w3) (v := .slice wa3 n4 wc3) (l := wantQ (ringL s.data.toList)) ⟨wa3, wc3, by rw [HN4.out], hW3'⟩ (Span.of_below hbu (Nat.le_refl _))
    have hb3u : Below w.heap.size w (w3.alloc (.cells #[.string nv, .slice ca3 n3 cc3, .slice wa3 n4 wc3] 52)) := (HB2.out.trans (hb3.mono HB2.out.size)).trans (hbu.mono (Nat.le_trans HB2.out.size hs3))
    have hG3 := Arr.kept (Arr.kept HG.out hb3) hbu
    have hrb := rbuild_any (baseL s.data.toList) g go gc _ hG3 hE hbase.1 hbase.2 (hTR.kept hb3u) hC0 hel haf
    rw [HEV.out, HCT.out, HCC.out] at hrb
    have HRB : Hid _ := hrb
    have HB3U : Hid _ := hb3u
    clear hrb hb3u hG3 hbu hC3' hW3' hb3 t0 t1 t2 HGIV
    go_wp2_with fail
    refine Calls.mono HRB.out ?_
    rintro r w4 ⟨cv4, wv4, rfl, hC4, hW4, hb4⟩
    have hwe : rwTo (eventsL (ringL s.data.toList)) (baseL s.data.toList).length ++ rvTo (eventsL (ringL s.data.toList)) ((ringL s.data.toList).countP lC) = wantQ (ringL s.data.toList) := by rw [HBR.out]; exact HWS.out
    rw [HCS.out] at hC4
    rw [hwe] at hW4
    obtain ⟨ca4, cc4, hcv4, hC4'⟩ := hC4
    obtain ⟨wa4, wc4, hwv4, hW4'⟩ := hW4
    rw [← HN3.out] at hcv4
    rw [← HN4.out] at hwv4
    subst hcv4
    subst hwv4
    have hs4 : w3.heap.size + 1 ≤ w4.heap.size := by have := hb4.size; simpa using this
    have hbv : Below w4.heap.size w4 (w4.alloc (.cells #[.string ⟨(tx (baseL s.data.toList)).toArray⟩, .slice ca4 n3 cc4, .slice wa4 n4 wc4] 52)) := (Below.refl _ _).alloc (Nat.le_refl _) _
    have hrow4 : w4.heap[w3.heap.size]? = some (.cells #[.string nv, .slice ca3 n3 cc3, .slice wa3 n4 wc3] 52 (0, 0)) := (hb4.block _ (by simp)).trans (heap_alloc_new w3 _)
    obtain ⟨x0, x1, x2⟩ := row3 ((hbv.block w3.heap.size (by omega)).trans hrow4)
    have hnv2 : nv = ⟨(tx (baseL s.data.toList)).toArray⟩ := HNV.out
    rw [← hnv2] at x0 x1 x2 hbv ⊢
    have hsm := same_any nv (codeQ (ringL s.data.toList)) (wantQ (ringL s.data.toList)) (.slice ca3 n3 cc3) (.slice wa3 n4 wc3) (.slice ca4 n3 cc4) (.slice wa4 n4 wc4) _ _ _ _ (w4.alloc (.cells #[.string nv, .slice ca4 n3 cc4, .slice wa4 n4 wc4] 52))
      (Rd44.span (Rd44.span HC3.out (Span.of_below hb4 (by simp))) (Span.of_below hbv (by omega))) (Rd4.span (Rd4.span HW3.out (Span.of_below hb4 (by simp))) (Span.of_below hbv (by omega)))
      (Rd44.span (w := w4) (c := codeQ (ringL s.data.toList)) ⟨ca4, cc4, by rw [HN3.out], hC4'⟩ (Span.of_below hbv (Nat.le_refl _))) (Rd4.span (w := w4) (l := wantQ (ringL s.data.toList)) ⟨wa4, wc4, by rw [HN4.out], hW4'⟩ (Span.of_below hbv (Nat.le_refl _))) (by simp; omega) (by simp) hcl hrowl hwl
    have HSM : Hid _ := hsm
    have HB4 : Hid (Below w.heap.size w (w4.alloc (.cells #[.string nv, .slice ca4 n3 cc4, .slice wa4 n4 wc4] 52))) := (HB3U.out.trans (hb4.mono HB3U.out.size)).trans (hbv.mono (Nat.le_trans HB3U.out.size hb4.size))
    clear hsm hbv hrow4 hb4 hC4' hW4' hnv2 hwe HRB
    go_wp2_with fail
    refine Calls.mono HSM.out ?_
    rintro r w5 ⟨rfl, hb5⟩
    have HB5 : Hid (Below w.heap.size w w5) := HB4.out.trans (hb5.mono HB4.out.size)
    clear hb5
    go_wp2
    go_ret
    exact ⟨rfl, HB5.out⟩
  · obtain ⟨rfl, rfl, rfl⟩ := hno h0
    have hbt : Below w1.heap.size w1 (w1.alloc (.cells #[.string ⟨#[]⟩, .slice none 0 0, .slice none 0 0] 45)) := (Below.refl _ _).alloc (Nat.le_refl _) _
    have hb1t : Below w.heap.size w (w1.alloc (.cells #[.string ⟨#[]⟩, .slice none 0 0, .slice none 0 0] 45)) := hb1.trans (hbt.mono hb1.size)
    have hrd := read_any s hs _ (hTR.kept hb1t)
    have h0i : (((rd s.data.toList).1 : Int) == 0) = false := by rw [beq_eq_false_iff_ne]; omega
    have HRD : Hid _ := hrd
    have HB1T : Hid _ := hb1t
    clear hyes hno hrd hbt hb1t
    go_wp2_with fail
    refine Calls.mono HRD.out ?_
    rintro r w2 ⟨v2, rfl, _, hno2, hb2⟩
    have hv2 := hno2 h0
    subst hv2
    have hrow2 : w2.heap[w1.heap.size]? = some (.cells #[.string ⟨#[]⟩, .slice none 0 0, .slice none 0 0] 45 (0, 0)) := (hb2.block _ (by simp)).trans (heap_alloc_new w1 _)
    obtain ⟨t0, t1, t2⟩ := row3 hrow2
    have HB2 : Hid (Below w.heap.size w w2) := HB1T.out.trans (hb2.mono HB1T.out.size)
    have HNT : Hid _ := nothing_any w2
    clear hb2 hrow2 hno2 h0 HRD
    generalize (rd s.data.toList).1 = x at *
    generalize (rd s.data.toList).2 = y at *
    go_wp2_with (first | (go_at_call 13; refine (num_any _ _).mono ?_; rintro r w9 ⟨rfl, rfl⟩) | (go_at_call 21; refine Calls.mono HNT.out ?_; rintro r w9 ⟨rfl, hb9⟩; have HB9 : Hid (Below w.heap.size w w9) := HB2.out.trans (hb9.mono HB2.out.size); clear hb9))
    go_ret
    exact ⟨rfl, HB9.out⟩

end Go.Proofs.YtokfiflflcfidaaDoor

namespace Go.Proofs.YtokfiflflcfidaaDoor
open Go.ChangeShapes Go.WideShapes Go.ChangeAt Go.ChangeMaps Go.RowKit

set_option maxRecDepth 100000 in
theorem builds_lifted (os : Os) (started : os.Started) (H : Type) (enc : TypeId × Value → H) :
    ReturnsInHanded {} Tryd.checked os 8 .any (fun w args => (Rows.buildsSpec.pre enc Tryd.prog Tryd.f8 [] false w args ∧ laidMetH Tryd.prog Rows.buildsRow.laid w) ∧ sizedMet enc Tryd.prog Tryd.f8 (OpenSpec.ofChange Rows.buildsSpec) false w args)
      (Rows.buildsSpec.post enc Tryd.prog Tryd.f8 false true false false) := by
  refine returnsInHanded_of_change_and (C := Tryd.checked) (X := fun w _ => laidMetH Tryd.prog Rows.buildsRow.laid w) (fun _ _ _ hh h => h.of_heap hh) Tryd.own started (by kernel_rfl) Tryd.func8
    (ChangeSpec.witness_shaped (enc := enc) (C := Tryd.checked) (os := os) (X := fun w _ => laidMetH Tryd.prog Rows.buildsRow.laid w) false (World.doorLaid Tryd.prog 400 os) #[.string ⟨#[]⟩] 8 rfl (World.shaped_of_RefB (by kernel_rfl) (by kernel_rfl)) (by kernel_rfl) (by kernel_rfl) (by kernel_rfl)
      (laidMetH_of_parts3 (fuel := 8) (laidMet_of_run' 8 (by kernel_rfl) (by kernel_rfl)) (by kernel_rfl) (by kernel_rfl))) ?_
  intro W base args ds gs before hval0 hW _ _ hL _
  have hval : ∀ (j : Nat) t v, Tryd.f8.params[j]? = some t → args[j]? = some v → Value.okWide Tryd.prog W .any base t v := hval0
  have hW' := hW
  obtain ⟨p, q, hA0, hV, rfl, hfz, hnd⟩ := hW
  have hA : DataW.TrodAll enc Tryd.prog W 0 (fun _ => true) true Tryd.f8.params.toList args.toList ds p := hA0
  rw [Tryd.params8] at hA hval
  obtain ⟨v0, d0, rfl, rfl, h0⟩ := trodAll_one hA
  obtain ⟨rfl, rfl⟩ := trodVars_none hV
  obtain ⟨s, rfl, rfl, rfl, hs⟩ := open_string Tryd.underlying9 (hval 0 9 v0 rfl rfl) h0
  have hT := tabs_of_laid hL
  clear hA0 hval0
  simp only [List.append_nil] at hW'
  refine (builds_any s (by unfold maxLen at hs; omega) W hT.1 hT.2).mono fun e W' ⟨he, hb⟩ => ?_
  subst he
  refine ⟨_, rfl, _, _, _, [], [], [], hW', trodAll_mk1 (shut_bool Tryd.underlying4 _), trodAll_mk1 (shut_string Tryd.underlying9 hs), rfl, hb.frame _, fun h => by cases h⟩

theorem builds_holds : Rows.BuildsSaid :=
  OpenClaim.holds_of_wide 8 Tryd.f8 rfl rfl rfl rfl rfl rfl rfl ⟨rfl, rfl, rfl, rfl, rfl⟩ rfl rfl rfl rfl rfl (by kernel_rfl) Tryd.func8 (by kernel_rfl)
    (of_decide_eq_true (by kernel_rfl)) (by unfold Func.isWrapper; first | (rw [if_pos (by decide +kernel)]; kernel_rfl) | (rw [if_neg (by decide +kernel)]; exact ⟨rfl, rfl⟩))
    (fun os started H enc _ => builds_lifted os started H enc)

theorem builds_card : Rows.BuildsCardSaid :=
  Claim7.holds_tied_plain_at .later [] [.data, .data, .data, .data] true Rows.buildsCard.stood.harness false
    builds_holds (fun _ h => by cases h) (by kernel_rfl) (fun _ h => by cases h) builds_row_tie rfl ⟨rfl, rfl⟩ (by kernel_rfl) rfl
    (fun f fn hf hfn => by
      obtain rfl : f = 8 := Option.some.inj ((show Tryd.prog.funcNamed "litmus/litmuslaw.Builds" = some 8 by kernel_rfl).symm.trans hf) |>.symm
      obtain rfl : fn = Tryd.f8 := (Option.some.inj (Tryd.func8.symm.trans hfn)).symm
      exact ⟨by kernel_rfl, fun j t ht => by
        rw [Tryd.params8] at ht
        have hm : t ∈ [9] := by simpa using Array.mem_of_getElem? ht
        have hall : ([9].all fun u => !Tryd.prog.wantsStandIn u) = true := by kernel_rfl
        exact (show Tryd.prog.wantsStandIn t = false by simpa using List.all_eq_true.1 hall t hm)⟩)
    (by kernel_rfl)
#print axioms builds_card
end Go.Proofs.YtokfiflflcfidaaDoor
