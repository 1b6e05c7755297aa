import Derived.Test.YtokfiflflcfidaaRows
import Derived.Test.YtokfiflflcfidaaPPz
import Derived.Test.YtokfiflflcfidaaMadW
import Derived.Test.YtokfiflflcfidaaSndT
import Derived.Test.YtokfiflflcfidaaMachP
import Derived.WalkKit
import Derived.WalkSpells
import Derived.WalkLawsBesides
import Derived.Deep.QuietTactic
import Derived.BigQuiet
namespace Go.Proofs.Ytokfiflflcfidaa
open Go.RowKit

theorem Try.nilNumsV (w : World) : Sem.run Try.prog (binOp BinOp.eql 44 (.slice none 0 0) (.slice none 0 0)) w = .ok (.bool true) w := by kernel_rfl
theorem numV_any (e : Int) (w : World) : Calls Try.prog 10 #[.int .i64 e] w fun r w' => r = .returned (.int .i64 e) ∧ w' = w := by
  go_enter Try.func10, Try.ntmps10
  go_wp2
  go_ret
  exact ⟨rfl, rfl⟩

set_option maxRecDepth 100000 in
set_option maxHeartbeats 1600000 in
/-- Plays -/
theorem plays_any (nv : ByteArray) (cv wv sv : Value) (code : List (List Q4)) (want : List Q4) (script : List Int) (model : Int) (w : World) (hC : Rd44 0 w.heap.size w cv code) (hW : Rd4 0 w.heap.size w wv want) (hnv : nv.size ≤ 9223372036854775807)
    (hSc : ScrRd w sv script) (hsl : script.length ≤ 9223372036854775807)
    (b1 : code.length ≤ 5864062014700) (b2 : ∀ k : Nat, (code[k]?.getD []).length ≤ 4398046511000) (b3 : want.length ≤ 4398046511000) :
    Calls Try.prog 6 #[.agg #[.string nv, cv, wv], .int .i64 model, sv] w fun r w' => r = .returned (.bool true) ∧ Below w.heap.size w w' := by
  have HC : Hid (Rd44 0 w.heap.size w cv code) := hC
  have HW : Hid (Rd4 0 w.heap.size w wv want) := hW
  obtain ⟨ca, cc, rfl, _⟩ := id hC
  obtain ⟨wa, wc, rfl, _⟩ := id hW
  have HSC : Hid (ScrRd w sv script) := hSc
  obtain ⟨sa, sc, rfl, _⟩ := id hSc
  have HSL : Hid _ := hsl
  have hb0 : Below w.heap.size w (w.alloc (.cells #[.string nv, .slice ca code.length cc, .slice wa want.length wc] 25)) := (Below.refl _ _).alloc (Nat.le_refl _) _
  have HB0 : Hid _ := hb0
  have HM : Hid _ := made_any nv (.slice ca code.length cc) (.slice wa want.length wc) code want 0 w.heap.size _ (Rd44.span HC.out (Span.of_below hb0 (Nat.le_refl _))) (Rd4.span HW.out (Span.of_below hb0 (Nat.le_refl _))) hb0.size b1 b2 b3
  obtain ⟨cn, hcn⟩ : ∃ n, code.length = n := ⟨_, rfl⟩
  obtain ⟨wn, hwn⟩ : ∃ n, want.length = n := ⟨_, rfl⟩
  obtain ⟨sn, hsn⟩ : ∃ n, script.length = n := ⟨_, rfl⟩
  rw [hcn] at HC HB0 HM ⊢
  rw [hwn] at HW HB0 HM ⊢
  rw [hsn] at HSC ⊢
  clear hC hW hSc b1 b2 b3 hb0 hcn hwn hsn hsl
  have hnil := Try.nilNumsV
  cases hS : sndT nv.data.toList code want
  · have HS : Hid _ := hS
    clear hS
    go_enter Try.func6, Try.ntmps6
    go_wp2_with fail
    refine Calls.mono HM.out ?_
    rintro r w1 ⟨cv', wv', rfl, hC1, hW1, hb1⟩
    obtain ⟨ca', cc', hcv', _⟩ := id hC1
    obtain ⟨wa', wc', hwv', _⟩ := id hW1
    obtain ⟨cn', hcn'⟩ : ∃ n, code.length = n := ⟨_, rfl⟩
    obtain ⟨wn', hwn'⟩ : ∃ n, want.length = n := ⟨_, rfl⟩
    rw [hcn'] at hcv'
    rw [hwn'] at hwv'
    subst hcv' hwv'
    have hC1' : Rd44 (w.heap.size + 1) w1.heap.size w1 (.slice ca' cn' cc') code := by simpa using hC1
    have hW1' : Rd4 (w.heap.size + 1) w1.heap.size w1 (.slice wa' wn' wc') want := by simpa using hW1
    have HB1 : Hid (Below w.heap.size w w1) := HB0.out.trans (hb1.mono HB0.out.size)
    have t1 : ∀ o : Nat, w1.cell? ⟨w.heap.size, o, none⟩ = (w.alloc (.cells #[.string nv, .slice ca cn cc, .slice wa wn wc] 25)).cell? ⟨w.heap.size, o, none⟩ := fun o => hb1.cell (p := ⟨w.heap.size, o, none⟩) (by simp)
    have u0 : w1.cell? ⟨w.heap.size, 0, none⟩ = some (.string nv) := (t1 0).trans (by simp)
    have u1 : w1.cell? ⟨w.heap.size, 1, none⟩ = some (.slice ca cn cc) := (t1 1).trans (by simp)
    have u2 : w1.cell? ⟨w.heap.size, 2, none⟩ = some (.slice wa wn wc) := (t1 2).trans (by simp)
    have hw1 : w.heap.size < w1.heap.size := by have := hb1.size; simp at this; omega
    have HC1 : Hid (Rd44 (w.heap.size + 1) w1.heap.size w1 (.slice ca' cn' cc') code) := hC1'
    have HW1 : Hid (Rd4 (w.heap.size + 1) w1.heap.size w1 (.slice wa' wn' wc') want) := hW1'
    clear hC1 hW1 hC1' hW1' hb1 t1 hcn' hwn' HM
    have hba : Below w1.heap.size w1 (w1.alloc (.cells #[.string nv, .slice ca' cn' cc', .slice wa' wn' wc'] 29)) := (Below.refl _ _).alloc (Nat.le_refl _) _
    have HBA : Hid _ := hba
    have HBW : Hid (Below w.heap.size w (w1.alloc (.cells #[.string nv, .slice ca' cn' cc', .slice wa' wn' wc'] 29))) := HB1.out.trans (hba.mono HB1.out.size)
    have HSZ : Hid (w1.heap.size ≤ (w1.alloc (.cells #[.string nv, .slice ca' cn' cc', .slice wa' wn' wc'] 29)).heap.size) := hba.size
    have HCA : Hid _ := Rd44.span HC1.out (Span.of_below hba (Nat.le_refl _))
    have HWA : Hid _ := Rd4.span HW1.out (Span.of_below hba (Nat.le_refl _))
    clear hba
    go_wp2_with fail
    refine Calls.mono (pplay_bad nv (.slice ca' cn' cc') (.slice wa' wn' wc') _ code want _ _ model _ HCA.out HWA.out HSZ.out hnv HS.out) ?_
    rintro r w2 ⟨rfl, hb2⟩
    have HB2 : Hid (Below w.heap.size w w2) := HBW.out.trans (hb2.mono HBW.out.size)
    have x0 : w2.cell? ⟨w.heap.size, 0, none⟩ = some (.string nv) := ((HBA.out.trans (hb2.mono HBA.out.size)).cell (p := ⟨w.heap.size, 0, none⟩) hw1).trans u0
    have x1 : w2.cell? ⟨w.heap.size, 1, none⟩ = some (.slice ca cn cc) := ((HBA.out.trans (hb2.mono HBA.out.size)).cell (p := ⟨w.heap.size, 1, none⟩) hw1).trans u1
    have x2 : w2.cell? ⟨w.heap.size, 2, none⟩ = some (.slice wa wn wc) := ((HBA.out.trans (hb2.mono HBA.out.size)).cell (p := ⟨w.heap.size, 2, none⟩) hw1).trans u2
    have hw2 : w.heap.size < w2.heap.size := by have := hb2.size; have := HSZ.out; omega
    clear hb2 u0 u1 u2
    have HSO : Hid _ := sound_any nv (.slice ca cn cc) (.slice wa wn wc) code want 0 w.heap.size w2 (Rd44.span HC.out (Span.of_below HB2.out (Nat.le_refl _))) (Rd4.span HW.out (Span.of_below HB2.out (Nat.le_refl _))) HB2.out.size hnv
    rw [HS.out] at HSO
    go_wp2_with fail
    refine Calls.mono HSO.out ?_
    rintro r w3 ⟨rfl, hb3⟩
    have HB3 : Hid (Below w.heap.size w w3) := HB2.out.trans (hb3.mono HB2.out.size)
    clear hb3
    go_wp2_with (go_at_call 10; refine (numV_any _ _).mono ?_; rintro r w6 ⟨rfl, rfl⟩)
    go_ret
    exact ⟨rfl, HB3.out⟩
  · have HS : Hid _ := hS
    clear hS
    by_cases hm : model = 0 ∨ model = 1
    · obtain ⟨mo, hmo, rfl⟩ : ∃ mo : Nat, (mo = 0 ∨ mo = 1) ∧ model = (mo : Int) := hm.elim (fun e => ⟨0, Or.inl rfl, e⟩) (fun e => ⟨1, Or.inr rfl, e⟩)
      have HMO : Hid _ := hmo
      have HLE : Hid ((endS (codeR code).length (playS (codeR code) mo script)).length ≤ 1000000) := by
        show _ ≤ _
        have := (sndC_of HS.out).2.1
        have := endS_length (codeR code).length (playS (codeR code) mo script)
        omega
      have hd : (((mo : Int) != 0) = false) ∨ (((mo : Int) != 0) = true ∧ ((mo : Int) != 1) = false) := hmo.elim (fun e => Or.inl (by subst e; rfl)) (fun e => Or.inr (by subst e; exact ⟨rfl, rfl⟩))
      clear hm hmo
      go_enter Try.func6, Try.ntmps6
      go_wp2_with fail
      refine Calls.mono HM.out ?_
      rintro r w1 ⟨cv', wv', rfl, hC1, hW1, hb1⟩
      obtain ⟨ca', cc', hcv', _⟩ := id hC1
      obtain ⟨wa', wc', hwv', _⟩ := id hW1
      obtain ⟨cn', hcn'⟩ : ∃ n, code.length = n := ⟨_, rfl⟩
      obtain ⟨wn', hwn'⟩ : ∃ n, want.length = n := ⟨_, rfl⟩
      rw [hcn'] at hcv'
      rw [hwn'] at hwv'
      subst hcv' hwv'
      have hC1' : Rd44 (w.heap.size + 1) w1.heap.size w1 (.slice ca' cn' cc') code := by simpa using hC1
      have hW1' : Rd4 (w.heap.size + 1) w1.heap.size w1 (.slice wa' wn' wc') want := by simpa using hW1
      have HB1 : Hid (Below w.heap.size w w1) := HB0.out.trans (hb1.mono HB0.out.size)
      have t1 : ∀ o : Nat, w1.cell? ⟨w.heap.size, o, none⟩ = (w.alloc (.cells #[.string nv, .slice ca cn cc, .slice wa wn wc] 25)).cell? ⟨w.heap.size, o, none⟩ := fun o => hb1.cell (p := ⟨w.heap.size, o, none⟩) (by simp)
      have u0 : w1.cell? ⟨w.heap.size, 0, none⟩ = some (.string nv) := (t1 0).trans (by simp)
      have u1 : w1.cell? ⟨w.heap.size, 1, none⟩ = some (.slice ca cn cc) := (t1 1).trans (by simp)
      have u2 : w1.cell? ⟨w.heap.size, 2, none⟩ = some (.slice wa wn wc) := (t1 2).trans (by simp)
      have hw1 : w.heap.size < w1.heap.size := by have := hb1.size; simp at this; omega
      have HC1 : Hid (Rd44 (w.heap.size + 1) w1.heap.size w1 (.slice ca' cn' cc') code) := hC1'
      have HW1 : Hid (Rd4 (w.heap.size + 1) w1.heap.size w1 (.slice wa' wn' wc') want) := hW1'
      clear hC1 hW1 hC1' hW1' hb1 t1 hcn' hwn' HM
      have hba : Below w1.heap.size w1 (w1.alloc (.cells #[.string nv, .slice ca' cn' cc', .slice wa' wn' wc'] 29)) := (Below.refl _ _).alloc (Nat.le_refl _) _
      have HBA : Hid _ := hba
      have HBW : Hid (Below w.heap.size w (w1.alloc (.cells #[.string nv, .slice ca' cn' cc', .slice wa' wn' wc'] 29))) := HB1.out.trans (hba.mono HB1.out.size)
      have HSZ : Hid (w1.heap.size ≤ (w1.alloc (.cells #[.string nv, .slice ca' cn' cc', .slice wa' wn' wc'] 29)).heap.size) := hba.size
      have HCA : Hid _ := Rd44.span HC1.out (Span.of_below hba (Nat.le_refl _))
      have HWA : Hid _ := Rd4.span HW1.out (Span.of_below hba (Nat.le_refl _))
      clear hba
      go_wp2_with fail
      refine Calls.mono (pplay_any nv (.slice ca' cn' cc') (.slice wa' wn' wc') _ code want _ _ mo HMO.out script _ HCA.out HWA.out HSZ.out hnv HS.out (ScrRd.kept HSC.out HBW.out)) ?_
      rintro r w2 ⟨v2, rfl, hO2, hb2⟩
      have hN2 : NumR w2 v2 _ := Own.numR hO2
      have HB2 : Hid (Below w.heap.size w w2) := HBW.out.trans (hb2.mono HBW.out.size)
      have x0 : w2.cell? ⟨w.heap.size, 0, none⟩ = some (.string nv) := ((HBA.out.trans (hb2.mono HBA.out.size)).cell (p := ⟨w.heap.size, 0, none⟩) hw1).trans u0
      have x1 : w2.cell? ⟨w.heap.size, 1, none⟩ = some (.slice ca cn cc) := ((HBA.out.trans (hb2.mono HBA.out.size)).cell (p := ⟨w.heap.size, 1, none⟩) hw1).trans u1
      have x2 : w2.cell? ⟨w.heap.size, 2, none⟩ = some (.slice wa wn wc) := ((HBA.out.trans (hb2.mono HBA.out.size)).cell (p := ⟨w.heap.size, 2, none⟩) hw1).trans u2
      have hw2 : w.heap.size < w2.heap.size := by have := hb2.size; have := HSZ.out; omega
      clear hb2 u0 u1 u2
      have HSO : Hid _ := sound_any nv (.slice ca cn cc) (.slice wa wn wc) code want 0 w.heap.size w2 (Rd44.span HC.out (Span.of_below HB2.out (Nat.le_refl _))) (Rd4.span HW.out (Span.of_below HB2.out (Nat.le_refl _))) HB2.out.size hnv
      rw [HS.out] at HSO
      go_wp2_with fail
      refine Calls.mono HSO.out ?_
      rintro r w3 ⟨rfl, hb3⟩
      have HB3 : Hid (Below w.heap.size w w3) := HB2.out.trans (hb3.mono HB2.out.size)
      have HN3 : Hid _ := NumR.kept hN2 hb3
      have y0 : w3.cell? ⟨w.heap.size, 0, none⟩ = some (.string nv) := (hb3.cell (p := ⟨w.heap.size, 0, none⟩) hw2).trans x0
      have y1 : w3.cell? ⟨w.heap.size, 1, none⟩ = some (.slice ca cn cc) := (hb3.cell (p := ⟨w.heap.size, 1, none⟩) hw2).trans x1
      have y2 : w3.cell? ⟨w.heap.size, 2, none⟩ = some (.slice wa wn wc) := (hb3.cell (p := ⟨w.heap.size, 2, none⟩) hw2).trans x2
      have hw3 : w.heap.size < w3.heap.size := by have := hb3.size; omega
      have HCR : Hid _ := codesRd_of (Rd44.span HC.out (Span.of_below HB3.out (Nat.le_refl _))) HB3.out.size HS.out
      have HWR : Hid _ := wantRd_of (Rd4.span HW.out (Span.of_below HB3.out (Nat.le_refl _))) HB3.out.size HS.out
      have HPL : Hid _ := play_any (codeR code) (wantR want) script mo nv (.slice ca cn cc) (.slice wa wn wc) (.slice sa sn sc) w3 HCR.out (sndC_of HS.out) HMO.out HWR.out (sndW_of HS.out) (ScrRd.kept HSC.out HB3.out) HSL.out
      clear hO2 hN2 hb3 x0 x1 x2
      generalize endS (codeR code).length (playS (codeR code) mo script) = L at *
      generalize metS (codeR code).length (wantR want) L = B at *
      rcases hd with hd | ⟨hd, hd'⟩
      all_goals
        go_wp2_with fail
        refine Calls.mono HPL.out ?_
        rintro r w4 ⟨v4, rfl, hO4, hb4⟩
        have HN4 : Hid _ := Own.numR hO4
        have HN34 : Hid _ := NumR.kept HN3.out hb4
        have HB4 : Hid (Below w.heap.size w w4) := HB3.out.trans (hb4.mono HB3.out.size)
        clear hO4 hb4 y0 y1 y2
        go_wp2_with fail
        refine Calls.mono (sameIntsR L v2 v4 _ HN34.out HN4.out HLE.out) ?_
        rintro r w5 ⟨rfl, m5, rfl⟩
        have HB5 : Hid (Below w.heap.size w (w4.drewN m5)) := below_drewN HB4.out m5
        go_wp2_with (go_at_call 10; refine (numV_any _ _).mono ?_; rintro r w6 ⟨rfl, rfl⟩)
        go_ret
        exact ⟨by simp, HB5.out⟩
    · have hm' : model ≠ 0 ∧ model ≠ 1 := by constructor <;> intro e <;> exact hm (by simp [e])
      have n0 : (model != 0) = true := by rw [bne_iff_ne]; exact hm'.1
      have n1 : (model != 1) = true := by rw [bne_iff_ne]; exact hm'.2
      have HMO : Hid _ := hm'
      clear hm hm'
      go_enter Try.func6, Try.ntmps6
      go_wp2_with fail
      refine Calls.mono HM.out ?_
      rintro r w1 ⟨cv', wv', rfl, hC1, hW1, hb1⟩
      obtain ⟨ca', cc', hcv', _⟩ := id hC1
      obtain ⟨wa', wc', hwv', _⟩ := id hW1
      obtain ⟨cn', hcn'⟩ : ∃ n, code.length = n := ⟨_, rfl⟩
      obtain ⟨wn', hwn'⟩ : ∃ n, want.length = n := ⟨_, rfl⟩
      rw [hcn'] at hcv'
      rw [hwn'] at hwv'
      subst hcv' hwv'
      have hC1' : Rd44 (w.heap.size + 1) w1.heap.size w1 (.slice ca' cn' cc') code := by simpa using hC1
      have hW1' : Rd4 (w.heap.size + 1) w1.heap.size w1 (.slice wa' wn' wc') want := by simpa using hW1
      have HB1 : Hid (Below w.heap.size w w1) := HB0.out.trans (hb1.mono HB0.out.size)
      have t1 : ∀ o : Nat, w1.cell? ⟨w.heap.size, o, none⟩ = (w.alloc (.cells #[.string nv, .slice ca cn cc, .slice wa wn wc] 25)).cell? ⟨w.heap.size, o, none⟩ := fun o => hb1.cell (p := ⟨w.heap.size, o, none⟩) (by simp)
      have u0 : w1.cell? ⟨w.heap.size, 0, none⟩ = some (.string nv) := (t1 0).trans (by simp)
      have u1 : w1.cell? ⟨w.heap.size, 1, none⟩ = some (.slice ca cn cc) := (t1 1).trans (by simp)
      have u2 : w1.cell? ⟨w.heap.size, 2, none⟩ = some (.slice wa wn wc) := (t1 2).trans (by simp)
      have hw1 : w.heap.size < w1.heap.size := by have := hb1.size; simp at this; omega
      have HC1 : Hid (Rd44 (w.heap.size + 1) w1.heap.size w1 (.slice ca' cn' cc') code) := hC1'
      have HW1 : Hid (Rd4 (w.heap.size + 1) w1.heap.size w1 (.slice wa' wn' wc') want) := hW1'
      clear hC1 hW1 hC1' hW1' hb1 t1 hcn' hwn' HM
      have hba : Below w1.heap.size w1 (w1.alloc (.cells #[.string nv, .slice ca' cn' cc', .slice wa' wn' wc'] 29)) := (Below.refl _ _).alloc (Nat.le_refl _) _
      have HBA : Hid _ := hba
      have HBW : Hid (Below w.heap.size w (w1.alloc (.cells #[.string nv, .slice ca' cn' cc', .slice wa' wn' wc'] 29))) := HB1.out.trans (hba.mono HB1.out.size)
      have HSZ : Hid (w1.heap.size ≤ (w1.alloc (.cells #[.string nv, .slice ca' cn' cc', .slice wa' wn' wc'] 29)).heap.size) := hba.size
      have HCA : Hid _ := Rd44.span HC1.out (Span.of_below hba (Nat.le_refl _))
      have HWA : Hid _ := Rd4.span HW1.out (Span.of_below hba (Nat.le_refl _))
      clear hba
      go_wp2_with fail
      refine Calls.mono (pplay_model nv (.slice ca' cn' cc') (.slice wa' wn' wc') _ code want _ _ model HMO.out _ HCA.out HWA.out HSZ.out hnv HS.out) ?_
      rintro r w2 ⟨rfl, hb2⟩
      have HB2 : Hid (Below w.heap.size w w2) := HBW.out.trans (hb2.mono HBW.out.size)
      have x0 : w2.cell? ⟨w.heap.size, 0, none⟩ = some (.string nv) := ((HBA.out.trans (hb2.mono HBA.out.size)).cell (p := ⟨w.heap.size, 0, none⟩) hw1).trans u0
      have x1 : w2.cell? ⟨w.heap.size, 1, none⟩ = some (.slice ca cn cc) := ((HBA.out.trans (hb2.mono HBA.out.size)).cell (p := ⟨w.heap.size, 1, none⟩) hw1).trans u1
      have x2 : w2.cell? ⟨w.heap.size, 2, none⟩ = some (.slice wa wn wc) := ((HBA.out.trans (hb2.mono HBA.out.size)).cell (p := ⟨w.heap.size, 2, none⟩) hw1).trans u2
      have hw2 : w.heap.size < w2.heap.size := by have := hb2.size; have := HSZ.out; omega
      clear hb2 u0 u1 u2
      have HSO : Hid _ := sound_any nv (.slice ca cn cc) (.slice wa wn wc) code want 0 w.heap.size w2 (Rd44.span HC.out (Span.of_below HB2.out (Nat.le_refl _))) (Rd4.span HW.out (Span.of_below HB2.out (Nat.le_refl _))) HB2.out.size hnv
      rw [HS.out] at HSO
      go_wp2_with fail
      refine Calls.mono HSO.out ?_
      rintro r w3 ⟨rfl, hb3⟩
      have HB3 : Hid (Below w.heap.size w w3) := HB2.out.trans (hb3.mono HB2.out.size)
      clear hb3
      go_wp2_with (go_at_call 10; refine (numV_any _ _).mono ?_; rintro r w6 ⟨rfl, rfl⟩)
      go_ret
      exact ⟨rfl, HB3.out⟩

end Go.Proofs.Ytokfiflflcfidaa
