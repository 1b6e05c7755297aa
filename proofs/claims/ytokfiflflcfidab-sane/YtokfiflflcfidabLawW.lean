import Derived.Test.YtokfiflflcfidabRows
import Derived.Test.YtokfiflflcfidabPPz
import Derived.Test.YtokfiflflcfidabMadW
import Derived.Test.YtokfiflflcfidabSndT
import Derived.Test.YtokfiflflcfidabSanW
import Derived.WalkKit
import Derived.WalkSpells
import Derived.WalkLawsBesides
import Derived.Deep.QuietTactic
import Derived.BigQuiet
import Derived.RegionTactic
import Derived.BigRegion
import Derived.Deep.RegionWith
namespace Go.Proofs.Ytokfiflflcfidab
open Go.RowKit

theorem numW_any (e : Int) (w : World) : Calls Try.prog 9 #[.int .i64 e] w fun r w' => r = .returned (.int .i64 e) ∧ w' = w := by
  go_enter Try.func9, Try.ntmps9
  go_wp2
  go_ret
  exact ⟨rfl, rfl⟩

set_option maxRecDepth 100000 in
set_option maxHeartbeats 1600000 in
/-- Sane -/
theorem sane_any (nv : ByteArray) (cv wv sv : Value) (code : List (List Q4)) (want : List Q4) (script : List Int) (model : Int) (w : World) (hC : Rd44 0 w.heap.size w cv code) (hW : Rd4 0 w.heap.size w wv want) (hnv : nv.size ≤ 9223372036854775807)
    (hSc : ScrRd w sv script) :
    Calls Try.prog 3 #[.agg #[.string nv, cv, wv], .int .i64 model, sv] w fun r w' => r = .returned (.bool true) ∧ Below w.heap.size w w' := by
  have HC : Hid (Rd44 0 w.heap.size w cv code) := hC
  have HW : Hid (Rd4 0 w.heap.size w wv want) := hW
  obtain ⟨ca, cc, rfl, _⟩ := id hC
  obtain ⟨wa, wc, rfl, _⟩ := id hW
  have HSC : Hid (ScrRd w sv script) := hSc
  obtain ⟨sa, sc, rfl, _⟩ := id hSc
  have hT0 := TBox.init w nv ca wa code.length cc want.length wc 25
  have HT0 : Hid _ := hT0
  have HSO : Hid _ := sound_any nv (.slice ca code.length cc) (.slice wa want.length wc) code want 0 w.heap.size _ (Rd44.span HC.out (Span.of_below hT0.below (Nat.le_refl _))) (Rd4.span HW.out (Span.of_below hT0.below (Nat.le_refl _))) hT0.below.size hnv
  obtain ⟨cn, hcn⟩ : ∃ n, code.length = n := ⟨_, rfl⟩
  obtain ⟨wn, hwn⟩ : ∃ n, want.length = n := ⟨_, rfl⟩
  obtain ⟨sn, hsn⟩ : ∃ n, script.length = n := ⟨_, rfl⟩
  have HCN : Hid _ := hcn
  have HWN : Hid _ := hwn
  rw [hcn] at HC HT0 HSO ⊢
  rw [hwn] at HW HT0 HSO ⊢
  rw [hsn] at HSC ⊢
  clear hC hW hSc hT0 hcn hwn hsn
  cases hS : sndT nv.data.toList code want
  · rw [hS] at HSO
    clear hS
    go_enter Try.func3, Try.ntmps3
    go_wp2_with fail
    refine Calls.mono HSO.out ?_
    rintro r w1 ⟨rfl, hb1⟩
    have HT1 : Hid _ := HT0.out.kept hb1
    clear hb1
    go_wp2
    go_ret
    exact ⟨rfl, HT1.out.below⟩
  · rw [hS] at HSO
    have HS : Hid _ := hS
    clear hS
    by_cases hm : model = 0 ∨ model = 1
    · obtain ⟨mo, hmo, rfl⟩ : ∃ mo : Nat, (mo = 0 ∨ mo = 1) ∧ model = (mo : Int) := hm.elim (fun e => ⟨0, Or.inl rfl, e⟩) (fun e => ⟨1, Or.inr rfl, e⟩)
      have HMO : Hid _ := hmo
      have hd : (((mo : Int) != 0) = false) ∨ (((mo : Int) != 0) = true ∧ ((mo : Int) != 1) = false) := hmo.elim (fun e => Or.inl (by subst e; rfl)) (fun e => Or.inr (by subst e; exact ⟨rfl, rfl⟩))
      have HPART : Hid _ := sndT_parts HS.out
      have hcn16 : cn ≤ 16 := by have := HPART.out.2.1; have := HCN.out; omega
      have HB : Hid (code.length ≤ 5864062014700 ∧ (∀ k : Nat, (code[k]?.getD []).length ≤ 4398046511000) ∧ want.length ≤ 4398046511000) := by
        refine ⟨by have := HPART.out.2.1; omega, fun k => ?_, by have := HPART.out.2.2.1; omega⟩
        by_cases hk : k < code.length
        · have := (sndRow_parts (HPART.out.2.2.2.1 _ (getD_mem [] hk))).2.1
          omega
        · rw [List.getElem?_eq_none (by omega)]; simp
      obtain ⟨ln, hln⟩ : ∃ ln, cn * 16 + 16 = ln := ⟨_, rfl⟩
      have HLN : Hid _ := hln
      have hln1 : 0 < ln ∧ ln ≤ 300 := by omega
      have hne : ((ln : Int) != (cn : Int) * 16 + 16) = false := by rw [bne_eq_false_iff_eq]; omega
      clear hln
      have HLE : Hid ((endS (codeR code).length (playS (codeR code) mo script)).length = ln) := by
        show _ = _
        rw [endS_length, codeR_length, HCN.out, HLN.out]
      have HCORE : Hid _ := sane_core (codeR code) mo script
      clear hm hmo
      rcases hd with hd | ⟨hd, hd'⟩
      all_goals
        go_enter Try.func3, Try.ntmps3
        go_wp2_with fail
        refine Calls.mono HSO.out ?_
        rintro r w1 ⟨rfl, hb1⟩
        have HT1 : Hid _ := HT0.out.kept hb1
        have s0 := HT1.out.t0
        have s1 := HT1.out.t1
        have s2 := HT1.out.t2
        have hlt1 := HT1.out.lt
        clear hb1
        go_wp2_with fail
        refine Calls.mono (made_any nv (.slice ca cn cc) (.slice wa wn wc) code want 0 w.heap.size _ (Rd44.span HC.out (Span.of_below HT1.out.below (Nat.le_refl _))) (Rd4.span HW.out (Span.of_below HT1.out.below (Nat.le_refl _))) HT1.out.below.size HB.out.1 HB.out.2.1 HB.out.2.2) ?_
        rintro r w2 ⟨cv', wv', rfl, hC2, hW2, hb2⟩
        have HT2 : Hid _ := HT1.out.kept hb2
        have HC2 : Hid (Rd44 w1.heap.size w2.heap.size w2 cv' code) := hC2
        have HW2 : Hid (Rd4 w1.heap.size w2.heap.size w2 wv' want) := hW2
        obtain ⟨ca', cc', hcv', _⟩ := id hC2
        obtain ⟨wa', wc', hwv', _⟩ := id hW2
        rw [HCN.out] at hcv'
        rw [HWN.out] at hwv'
        subst hcv' hwv'
        clear hC2 hW2 hb2 s0 s1 s2
        have hba : Below w2.heap.size w2 (w2.alloc (.cells #[.string nv, .slice ca' cn cc', .slice wa' wn wc'] 31)) := (Below.refl _ _).alloc (Nat.le_refl _) _
        have HTA : Hid _ := HT2.out.kept hba
        have HCA : Hid _ := Rd44.span HC2.out (Span.of_below hba (Nat.le_refl _))
        have HWA : Hid _ := Rd4.span HW2.out (Span.of_below hba (Nat.le_refl _))
        have HSZ : Hid _ := hba.size
        clear hba
        go_wp2_with fail
        refine Calls.mono (pplay_any nv (.slice ca' cn cc') (.slice wa' wn wc') _ code want _ _ mo HMO.out script _ HCA.out HWA.out HSZ.out hnv HS.out (ScrRd.kept HSC.out HTA.out.below)) ?_
        rintro r w3 ⟨v3, rfl, hO3, hb3⟩
        have HT3 : Hid _ := HTA.out.kept hb3
        have hN3 : NumR w3 v3 _ := Own.numR hO3
        obtain ⟨va, vc, rfl, hNv⟩ := id hN3
        have HNV : Hid _ := hNv
        generalize endS (codeR code).length (playS (codeR code) mo script) = L at *
        rw [HLE.out] at HNV ⊢
        have s1 := HT3.out.t1
        have hlt3 := HT3.out.lt
        clear hO3 hN3 hNv hb3
        obtain ⟨gb, go, rfl, hgb, _⟩ := HNV.out 0 hln1.1
        have HNC : Hid (∀ i, i < ln → w3.cell? ⟨gb, go + i, none⟩ = some (.int .i64 ((L[i]?.getD 0 : Nat) : Int))) := fun i hi => by
          obtain ⟨b', o', he, _, hc⟩ := HNV.out i hi
          simp only [Option.some.injEq, Addr.mk.injEq, and_true] at he
          obtain ⟨rfl, rfl⟩ := he
          exact hc
        have HRD : Hid (∀ (k r : Nat) (wx : World), k < cn → r < 16 → Below w.heap.size w wx → Calls Try.prog 10 #[.agg #[.string nv, .slice ca cn cc, .slice wa wn wc], .int .i64 k, .int .i64 r, .int .i64 ((L[k * 16 + r]?.getD 0 : Nat) : Int)] wx fun e w' => e = .returned (.bool true) ∧ Below wx.heap.size wx w') := fun k r wx hk hr hb => by
          have hk' : k < (codeR code).length := by rw [codeR_length]; have := HCN.out; omega
          exact sread_any (codeR code) k r _ nv (.slice ca cn cc) wa wn wc wx (codesRd_of (Rd44.span HC.out (Span.of_below hb (Nat.le_refl _))) hb.size HS.out) (sndC_of HS.out) hk' (HCORE.out.1 k r hk' hr)
        have HSD : Hid (∀ (c : Nat) (wx : World), c < 16 → Below w.heap.size w wx → Calls Try.prog 11 #[.agg #[.string nv, .slice ca cn cc, .slice wa wn wc], .int .i64 c, .int .i64 ((L[cn * 16 + c]?.getD 0 : Nat) : Int)] wx fun e w' => e = .returned (.bool true) ∧ Below wx.heap.size wx w') := fun c wx hc hb => by
          have h := HCORE.out.2 c hc
          rw [codeR_length, HCN.out] at h
          exact stored_any (codeR code) c _ nv (.slice ca cn cc) wa wn wc wx (codesRd_of (Rd44.span HC.out (Span.of_below hb (Nat.le_refl _))) hb.size HS.out) (sndC_of HS.out) true (by simp [h])
        clear HNV HCORE HLE
        go_wp2_with (go_at_call 9; refine (numW_any _ _).mono ?_; rintro r w3 ⟨rfl, rfl⟩)
        go_loopw [12] (fun i wr => ∃ k : Nat, k ≤ cn ∧ i = .int .i64 k ∧ TBox w wr nv (.slice ca cn cc) (.slice wa wn wc) ∧ Below w3.heap.size w3 wr) (fun i _ => cn - (intOf i).toNat)
        case atStart => exact ⟨0, Nat.zero_le _, rfl, HT3.out, Below.refl _ _⟩
        case round =>
          obtain ⟨k, hk, rfl, hT, hB⟩ := hrel
          have HT : Hid _ := hT
          have HB : Hid _ := hB
          clear hT hB s1
          by_cases hlt : k < cn
          · go_wp2
            go_loopw [13] (fun i wr2 => ∃ r : Nat, r ≤ 16 ∧ i = .int .i64 r ∧ TBox w wr2 nv (.slice ca cn cc) (.slice wa wn wc) ∧ Below w3.heap.size w3 wr2) (fun i _ => 16 - (intOf i).toNat)
            case atStart => exact ⟨0, Nat.zero_le _, rfl, HT.out, HB.out⟩
            case round =>
              obtain ⟨r, hr, rfl, hT2, hB2⟩ := hrel
              have HTT : Hid _ := hT2
              have HBB : Hid _ := hB2
              have s0 := hT2.t0
              have s1 := hT2.t1
              have s2 := hT2.t2
              have hltw := hT2.lt
              clear hT2 hB2
              by_cases hr16 : r < 16
              · have hcell := (HBB.out.cell (p := ⟨gb, go + (k * 16 + r), none⟩) hgb).trans (HNC.out (k * 16 + r) (by have := HLN.out; omega))
                have hcall := fun wx => HRD.out k r wx hlt hr16
                have HCALL : Hid _ := hcall
                have hj : ((k : Int) * 16 + (r : Int)).toNat = k * 16 + r := by omega
                have hj0 : (0 : Int) ≤ (k : Int) * 16 + (r : Int) := by omega
                have hw1 : IntKind.i64.wrap ((k : Int) * 16) = (k : Int) * 16 := by simp [IntKind.wrap, IntKind.bits, IntKind.signed]; omega
                have hw2 : IntKind.i64.wrap ((k : Int) * 16 + (r : Int)) = (k : Int) * 16 + (r : Int) := by simp [IntKind.wrap, IntKind.bits, IntKind.signed]; omega
                have hj1 : (k : Int) * 16 + (r : Int) < (ln : Int) := by have := HLN.out; omega
                have hgbw : gb < wr.heap.size := by have := HBB.out.size; omega
                clear hcall
                generalize L[k * 16 + r]?.getD 0 = v at *
                go_wp2
                go_region_with (go_at_call 10; refine Calls.mono (HCALL.out _ (below_drewN HTT.out.below _)) ?_; rintro e w1 ⟨rfl, hb1⟩; have HT4 : Hid _ := (HTT.out.kept (below_drewN (Below.refl _ _) _)).kept hb1; have HB4 : Hid (Below w3.heap.size w3 w1) := (below_drewN HBB.out _).trans (hb1.mono (below_drewN HBB.out _).size); clear hb1)
                all_goals go_wp2
                all_goals go_roundw
                all_goals first | exact ⟨r + 1, by omega, by go_num, HT4.out, HB4.out⟩ | (simp [intOf]; omega)
              · go_wp2
                go_roundw
                case rel => exact ⟨k + 1, by omega, by go_num, HTT.out, HBB.out⟩
                case measure => simp [intOf]; omega
          · go_wp2
            go_loopw [15] (fun i wr2 => ∃ c : Nat, c ≤ 16 ∧ i = .int .i64 c ∧ TBox w wr2 nv (.slice ca cn cc) (.slice wa wn wc) ∧ Below w3.heap.size w3 wr2) (fun i _ => 16 - (intOf i).toNat)
            case atStart => exact ⟨0, Nat.zero_le _, rfl, HT.out, HB.out⟩
            case round =>
              obtain ⟨c, hc, rfl, hT2, hB2⟩ := hrel
              have HTT : Hid _ := hT2
              have HBB : Hid _ := hB2
              have s0 := hT2.t0
              have s1 := hT2.t1
              have s2 := hT2.t2
              have hltw := hT2.lt
              clear hT2 hB2
              by_cases hc16 : c < 16
              · have hcell := (HBB.out.cell (p := ⟨gb, go + (cn * 16 + c), none⟩) hgb).trans (HNC.out (cn * 16 + c) (by have := HLN.out; omega))
                have hcall := fun wx => HSD.out c wx hc16
                have HCALL : Hid _ := hcall
                have hj : ((cn : Int) * 16 + (c : Int)).toNat = cn * 16 + c := by omega
                have hj0 : (0 : Int) ≤ (cn : Int) * 16 + (c : Int) := by omega
                have hw1 : IntKind.i64.wrap ((cn : Int) * 16) = (cn : Int) * 16 := by simp [IntKind.wrap, IntKind.bits, IntKind.signed]; omega
                have hw2 : IntKind.i64.wrap ((cn : Int) * 16 + (c : Int)) = (cn : Int) * 16 + (c : Int) := by simp [IntKind.wrap, IntKind.bits, IntKind.signed]; omega
                have hj1 : (cn : Int) * 16 + (c : Int) < (ln : Int) := by have := HLN.out; omega
                have hgbw : gb < wr.heap.size := by have := HBB.out.size; omega
                clear hcall
                generalize L[cn * 16 + c]?.getD 0 = v at *
                go_wp2
                go_region_with (go_at_call 11; refine Calls.mono (HCALL.out _ (below_drewN HTT.out.below _)) ?_; rintro e w1 ⟨rfl, hb1⟩; have HT4 : Hid _ := (HTT.out.kept (below_drewN (Below.refl _ _) _)).kept hb1; have HB4 : Hid (Below w3.heap.size w3 w1) := (below_drewN HBB.out _).trans (hb1.mono (below_drewN HBB.out _).size); clear hb1)
                all_goals go_wp2
                all_goals go_roundw
                all_goals first | exact ⟨c + 1, by omega, by go_num, HT4.out, HB4.out⟩ | (simp [intOf]; omega)
              · go_wp2
                go_ret
                exact ⟨rfl, HTT.out.below⟩
    · have hm' : model ≠ 0 ∧ model ≠ 1 := by constructor <;> intro e <;> exact hm (by simp [e])
      have n0 : (model != 0) = true := by rw [bne_iff_ne]; exact hm'.1
      have n1 : (model != 1) = true := by rw [bne_iff_ne]; exact hm'.2
      clear hm hm'
      go_enter Try.func3, Try.ntmps3
      go_wp2_with fail
      refine Calls.mono HSO.out ?_
      rintro r w1 ⟨rfl, hb1⟩
      have HT1 : Hid _ := HT0.out.kept hb1
      clear hb1
      go_wp2
      go_ret
      exact ⟨rfl, HT1.out.below⟩

end Go.Proofs.Ytokfiflflcfidab
