import Derived.Test.YtokfiflflcfidabDoorRows
import Derived.Test.YtokfiflflcfidabDoorScrW
import Derived.Test.YtokfiflflcfidabDoorLawF
import Derived.Test.YtokfiflflcfidabDoorMachP
import Derived.WalkKit
import Derived.WalkSpells
import Derived.WalkLawsBesides
import Derived.Test.YtokfiflflcfidabDoorCards
import Derived.Test.YtokfiflflcfidabDoorTie
import Derived.Test.YtokfiflflcfidabDoorLaid
import Derived.ProofKit
import Derived.LaidMore
import Derived.OpenShut
import Derived.Stop.Joined
import Derived.SevenTiedAt
namespace Go.Proofs.YtokfiflflcfidabDoor
open Go.RowKit

theorem Tryd.nilNumsS (w : World) : Sem.run Tryd.prog (binOp BinOp.eql 25 (.slice none 0 0) (.slice none 0 0)) w = .ok (.bool true) w := by kernel_rfl

set_option maxRecDepth 100000 in
set_option maxHeartbeats 1600000 in
theorem shows_any (s : ByteArray) (hs : s.size ≤ 9223372036854775807) (w : World) (hT : TabN w) (hTR : TabR w) :
    Calls Tryd.prog 6 #[.string s] w fun r w' => r = .returned (.bool true) ∧ Below w.heap.size w w' := by
  have hnil := Tryd.nilNumsS
  go_enter Tryd.func6, Tryd.ntmps6
  by_cases h0 : (rd s.data.toList).1 = 0
  · obtain ⟨hR, hlast, h16, hbl, hrl, hE, hpos⟩ := rd_ring h0
    have hz := (rd_zero h0).1
    have HLB : Hid _ := lb_one h0
    have hlbp : lbP s.data.toList = 0 := hz
    have HLBP : Hid _ := hlbp
    have HS : Hid (SndC (codeOf (ringL s.data.toList))) := ring_sndC _ hR h16 hlast
    have HW : Hid (SndW (codeOf (ringL s.data.toList)).length (wantOf (ringL s.data.toList))) := ring_sndW _ hR h16 hlast
    have HCL : Hid _ := codeOf_length (ringL s.data.toList)
    have hT16 : (ringL s.data.toList).countP lT ≤ 16 := Nat.le_trans List.countP_le_length h16
    have HSH : Hid (shown (ringL s.data.toList) = true → Leg (codeOf (ringL s.data.toList)) st0 (moves0 (ringL s.data.toList)) ∧ (moves0 (ringL s.data.toList)).length ≤ 64 ∧ metS ((ringL s.data.toList).countP lT) (wantOf (ringL s.data.toList)) (endS ((ringL s.data.toList).countP lT) (playS (codeOf (ringL s.data.toList)) 1 ((scrL (ringL s.data.toList)).map fun x : Nat => (x : Int)))) = true) := fun h => shows_core _ hR h16 hlast (Nat.le_trans List.countP_le_length h16) h
    have HSM : Hid _ := scr_small (ringL s.data.toList) hT16
    have HBD : Hid (∀ g go gc wq, Arr wq g go (baseL s.data.toList) → TabN wq → TabR wq → Calls Tryd.prog 12 #[.string s, .slice (some ⟨g, go, none⟩) (edgesOf s.data.toList).length gc] wq fun r w' => ∃ nv ca cn cc wa wn wc g2 c2, r = .returned (.tuple #[.agg #[.string nv, .slice ca cn cc, .slice wa wn wc], .slice (some ⟨g2, 0, none⟩) (ringL s.data.toList).length c2, .bool true]) ∧
      Rd44 wq.heap.size w'.heap.size w' (.slice ca cn cc) (codeQ (ringL s.data.toList)) ∧ Rd4 wq.heap.size w'.heap.size w' (.slice wa wn wc) (wantQ (ringL s.data.toList)) ∧ EArr w' g2 (eventsL (ringL s.data.toList)) ∧ wq.heap.size ≤ g2 ∧ Below wq.heap.size wq w') := by
      intro g go gc wq hA h1 h2
      have := built_any s hs g go gc wq hA h0 h1 h2
      rw [hbl] at this
      exact this
    have HSR : Hid _ := script_read s hs w hT h0
    have HRD : Hid (∀ wq, TabR wq → Calls Tryd.prog 10 #[.string s] wq fun r w' => ∃ g go gc, r = .returned (.tuple #[.slice (some ⟨g, go, none⟩) (edgesOf s.data.toList).length gc, .int .i64 0, .int .i64 0]) ∧ Arr w' g go (baseL s.data.toList) ∧ Below wq.heap.size wq w') := by
      intro wq hq
      refine (read_any s hs wq hq).mono ?_
      rintro r w' ⟨v, rfl, hyes, _, hb⟩
      obtain ⟨g, go, gc, rfl, _, hG⟩ := hyes h0
      exact ⟨g, go, gc, by rw [h0, hz]; rfl, hG, hb⟩
    clear hR hlast h16 hbl hrl hE hpos hz h0 hlbp hT16
    go_wp2_with fail
    refine Calls.mono HSR.out ?_
    rintro r w1 ⟨v1, e1, rfl, hy1, hn1, hb1⟩
    have HY1 : Hid (shown (ringL s.data.toList) = true → e1 = 0 ∧ Own w1 w.heap.size 3 v1 (scrL (ringL s.data.toList))) := hy1
    have HN1 : Hid _ := hn1
    have HB1 : Hid (Below w.heap.size w w1) := hb1
    clear hy1 hn1 hb1
    go_wp2_with fail
    refine Calls.mono (HRD.out _ (hTR.kept HB1.out)) ?_
    rintro r w2 ⟨g, go, gc, rfl, hG2, hb2⟩
    have HG2 : Hid (Arr w2 g go (baseL s.data.toList)) := hG2
    have HB2 : Hid (Below w.heap.size w w2) := HB1.out.trans (hb2.mono HB1.out.size)
    have HB12 : Hid (Below w1.heap.size w1 w2) := hb2
    clear hG2 hb2
    go_wp2_with fail
    refine Calls.mono (label_any s hs 1 _ (hT.kept HB2.out)) ?_
    rintro r w3 ⟨rfl, hb3⟩
    rw [HLB.out.1, HLB.out.2, HLBP.out]
    have HB3 : Hid (Below w.heap.size w w3) := HB2.out.trans (hb3.mono HB2.out.size)
    have HB13 : Hid (Below w1.heap.size w1 w3) := HB12.out.trans (hb3.mono HB12.out.size)
    have HG3 : Hid (Arr w3 g go (baseL s.data.toList)) := Arr.kept HG2.out hb3
    clear hb3
    go_wp2_with fail
    refine Calls.mono (HBD.out _ _ _ _ HG3.out (hT.kept HB3.out) (hTR.kept HB3.out)) ?_
    rintro r w4 ⟨nv, ca, cn, cc, wa, wn, wc, g2, c2, rfl, hC, hWt, hEA, hg2, hb4⟩
    have hbt : Below w4.heap.size w4 (w4.alloc (.cells #[.string nv, .slice ca cn cc, .slice wa wn wc] 33)) := (Below.refl _ _).alloc (Nat.le_refl _) _
    have HB4 : Hid (Below w.heap.size w (w4.alloc (.cells #[.string nv, .slice ca cn cc, .slice wa wn wc] 33))) := (HB3.out.trans (hb4.mono HB3.out.size)).trans (hbt.mono (HB3.out.trans (hb4.mono HB3.out.size)).size)
    have HB14 : Hid (Below w1.heap.size w1 (w4.alloc (.cells #[.string nv, .slice ca cn cc, .slice wa wn wc] 33))) := (HB13.out.trans (hb4.mono HB13.out.size)).trans (hbt.mono (HB13.out.trans (hb4.mono HB13.out.size)).size)
    have HC2 : Hid _ := codes_of (Rd44.span hC (Span.of_below hbt (Nat.le_refl _))) hbt.size HS.out
    have HW2 : Hid _ := want_of (Rd4.span hWt (Span.of_below hbt (Nat.le_refl _))) hbt.size
    clear hC hWt hEA hb4 hbt
    cases hsh : shown (ringL s.data.toList)
    · obtain ⟨he, hv⟩ := HN1.out hsh
      subst he
      subst hv
      clear hsh
      go_wp2_with (go_at_call 11; refine (num_any _ _).mono ?_; rintro r w6 ⟨rfl, rfl⟩)
      go_ret
      exact ⟨rfl, HB4.out⟩
    · obtain ⟨he, hO1⟩ := HY1.out hsh
      obtain ⟨_, hml, hmet⟩ := HSH.out hsh
      subst he
      have hO4 : Own (w4.alloc (.cells #[.string nv, .slice ca cn cc, .slice wa wn wc] 33)) w.heap.size 3 v1 (scrL (ringL s.data.toList)) := hO1.kept HB14.out
      have hSR := Own.scr hO4 HSM.out
      have hNR := hO4.nums
      have hsl : (scrL (ringL s.data.toList)).length ≤ 64 := by
        have := pkTo_len (codeOf (ringL s.data.toList)) (moves0 (ringL s.data.toList)) (moves0 (ringL s.data.toList)).length
        show (pkTo _ _ _).1.length ≤ 64
        omega
      have hplay := play_any (codeOf (ringL s.data.toList)) (wantOf (ringL s.data.toList)) ((scrL (ringL s.data.toList)).map fun x : Nat => (x : Int)) 1 nv (.slice ca cn cc) (.slice wa wn wc) v1 _ HC2.out HS.out (Or.inr rfl) HW2.out HW.out hSR (by rw [List.length_map]; omega)
      rw [HCL.out, hmet] at hplay
      have HPL : Hid _ := hplay
      obtain ⟨la, lc, hv1, hnr⟩ := hNR
      have HNR : Hid _ := hnr
      subst hv1
      have hslI : ¬ ((64 : Int) < ((scrL (ringL s.data.toList)).length : Int)) := by omega
      clear hplay hSR hO4 hO1 hml hmet hsh hnr HSH HSM HBD HRD HSR HY1 HN1
      generalize hle : (scrL (ringL s.data.toList)).length = ln at *
      have HLE : Hid _ := hle
      clear hle
      go_wp2_with (go_at_call 11; refine (num_any _ _).mono ?_; rintro r w6 ⟨rfl, rfl⟩)
      go_loop [15] (fun i => ∃ n : Nat, n ≤ ln ∧ i = .int .i64 n) (fun i => ln - (intOf i).toNat)
      case atStart => exact ⟨0, Nat.zero_le _, rfl⟩
      case round =>
        obtain ⟨n, hn, rfl⟩ := hrel
        by_cases hlt : n < ln
        · obtain ⟨b, off, rfl, hb, hc⟩ := HNR.out n hlt
          generalize (scrL (ringL s.data.toList))[n]?.getD 0 = x at *
          have hx : ¬ ((x : Int) < 0) := by omega
          go_wp2
          go_round
          case rel => exact ⟨n + 1, by omega, by go_num⟩
          case measure => simp [intOf]; omega
        · go_wp2_with fail
          refine Calls.mono HPL.out ?_
          rintro r w7 ⟨v7, rfl, _, hb7⟩
          have HB7 : Hid (Below w.heap.size w w7) := HB4.out.trans (hb7.mono HB4.out.size)
          clear hb7
          go_wp2
          go_ret
          exact ⟨rfl, HB7.out⟩
  · have h0i : (((rd s.data.toList).1 : Int) == 0) = false := by rw [beq_eq_false_iff_ne]; omega
    have HSE : Hid _ := script_err s hs w hT h0
    have HRE : Hid (∀ wq, TabR wq → Calls Tryd.prog 10 #[.string s] wq fun r w' => r = .returned (.tuple #[.slice none 0 0, .int .i64 ((rd s.data.toList).1 : Nat), .int .i64 ((rd s.data.toList).2 : Nat)]) ∧ Below wq.heap.size wq w') := by
      intro wq hq
      refine (read_any s hs wq hq).mono ?_
      rintro r w' ⟨v, rfl, _, hno, hb⟩
      rw [hno h0]
      exact ⟨rfl, hb⟩
    clear h0
    generalize (rd s.data.toList).1 = e at *
    generalize (rd s.data.toList).2 = p at *
    go_wp2_with fail
    refine Calls.mono HSE.out ?_
    rintro r w1 ⟨rfl, hb1⟩
    have HB1 : Hid (Below w.heap.size w w1) := hb1
    clear hb1
    go_wp2_with fail
    refine Calls.mono (HRE.out _ (hTR.kept HB1.out)) ?_
    rintro r w2 ⟨rfl, hb2⟩
    have HB2 : Hid (Below w.heap.size w w2) := HB1.out.trans (hb2.mono HB1.out.size)
    clear hb2
    go_wp2_with (go_at_call 11; refine (num_any _ _).mono ?_; rintro r w6 ⟨rfl, rfl⟩)
    go_ret
    exact ⟨by simp, HB2.out⟩

end Go.Proofs.YtokfiflflcfidabDoor

namespace Go.Proofs.YtokfiflflcfidabDoor
open Go.ChangeShapes Go.WideShapes Go.ChangeAt Go.ChangeMaps Go.RowKit

set_option maxRecDepth 100000 in
theorem shows_lifted (os : Os) (started : os.Started) (H : Type) (enc : TypeId × Value → H) :
    ReturnsInHanded {} Tryd.checked os 6 .any (fun w args => (Rows.showsSpec.pre enc Tryd.prog Tryd.f6 [] false w args ∧ laidMetH Tryd.prog Rows.showsRow.laid w) ∧ sizedMet enc Tryd.prog Tryd.f6 (OpenSpec.ofChange Rows.showsSpec) false w args)
      (Rows.showsSpec.post enc Tryd.prog Tryd.f6 false true false false) := by
  refine returnsInHanded_of_change_and (C := Tryd.checked) (X := fun w _ => laidMetH Tryd.prog Rows.showsRow.laid w) (fun _ _ _ hh h => h.of_heap hh) Tryd.own started (by kernel_rfl) Tryd.func6
    (ChangeSpec.witness_shaped (enc := enc) (C := Tryd.checked) (os := os) (X := fun w _ => laidMetH Tryd.prog Rows.showsRow.laid w) false (World.doorLaid Tryd.prog 400 os) #[.string ⟨#[]⟩] 8 rfl (World.shaped_of_RefB (by kernel_rfl) (by kernel_rfl)) (by kernel_rfl) (by kernel_rfl) (by kernel_rfl)
      (laidMetH_of_parts3 (fuel := 8) (laidMet_of_run' 8 (by kernel_rfl) (by kernel_rfl)) (by kernel_rfl) (by kernel_rfl))) ?_
  intro W base args ds gs before hval0 hW _ _ hL _
  have hval : ∀ (j : Nat) t v, Tryd.f6.params[j]? = some t → args[j]? = some v → Value.okWide Tryd.prog W .any base t v := hval0
  have hW' := hW
  obtain ⟨p, q, hA0, hV, rfl, hfz, hnd⟩ := hW
  have hA : DataW.TrodAll enc Tryd.prog W 0 (fun _ => true) true Tryd.f6.params.toList args.toList ds p := hA0
  rw [Tryd.params6] at hA hval
  obtain ⟨v0, d0, rfl, rfl, h0⟩ := trodAll_one hA
  obtain ⟨rfl, rfl⟩ := trodVars_none hV
  obtain ⟨s, rfl, rfl, rfl, hs⟩ := open_string Tryd.underlying9 (hval 0 9 v0 rfl rfl) h0
  have hT := tabs_of_laid hL
  clear hA0 hval0
  simp only [List.append_nil] at hW'
  refine (shows_any s (by unfold maxLen at hs; omega) W hT.1 hT.2).mono fun e W' ⟨he, hb⟩ => ?_
  subst he
  refine ⟨_, rfl, _, _, _, [], [], [], hW', trodAll_mk1 (shut_bool Tryd.underlying4 _), trodAll_mk1 (shut_string Tryd.underlying9 hs), rfl, hb.frame _, fun h => by cases h⟩

theorem shows_holds : Rows.ShowsSaid :=
  OpenClaim.holds_of_wide 6 Tryd.f6 rfl rfl rfl rfl rfl rfl rfl ⟨rfl, rfl, rfl, rfl, rfl⟩ rfl rfl rfl rfl rfl (by kernel_rfl) Tryd.func6 (by kernel_rfl)
    (of_decide_eq_true (by kernel_rfl)) (by unfold Func.isWrapper; first | (rw [if_pos (by decide +kernel)]; kernel_rfl) | (rw [if_neg (by decide +kernel)]; exact ⟨rfl, rfl⟩))
    (fun os started H enc _ => shows_lifted os started H enc)

theorem shows_card : Rows.ShowsCardSaid :=
  Claim7.holds_tied_plain_at .later [] [.data, .data, .data, .data] true Rows.showsCard.stood.harness false
    shows_holds (fun _ h => by cases h) (by kernel_rfl) (fun _ h => by cases h) shows_row_tie rfl ⟨rfl, rfl⟩ (by kernel_rfl) rfl
    (fun f fn hf hfn => by
      obtain rfl : f = 6 := Option.some.inj ((show Tryd.prog.funcNamed "litmus/litmuslaw.Shows" = some 6 by kernel_rfl).symm.trans hf) |>.symm
      obtain rfl : fn = Tryd.f6 := (Option.some.inj (Tryd.func6.symm.trans hfn)).symm
      exact ⟨by kernel_rfl, fun j t ht => by
        rw [Tryd.params6] at ht
        have hm : t ∈ [9] := by simpa using Array.mem_of_getElem? ht
        have hall : ([9].all fun u => !Tryd.prog.wantsStandIn u) = true := by kernel_rfl
        exact (show Tryd.prog.wantsStandIn t = false by simpa using List.all_eq_true.1 hall t hm)⟩)
    (by kernel_rfl)
#print axioms shows_card
end Go.Proofs.YtokfiflflcfidabDoor
