import Derived.Test.YtokfiflflcfidabRows
import Derived.Test.YtokfiflflcfidabPPm
import Derived.Test.YtokfiflflcfidabQfR
import Derived.Test.YtokfiflflcfidabPSndT
import Derived.WalkKit
import Derived.WalkSpells
import Derived.WalkLawsBesides
namespace Go.Proofs.Ytokfiflflcfidab
open Go.RowKit

set_option maxRecDepth 100000 in
set_option maxHeartbeats 1600000 in
/-- the program's Play of a sound test -/
theorem pplay_any (nv : ByteArray) (cv wv sv : Value) (code : List (List Q4)) (want : List Q4) (lo hi model : Nat) (hm : model = 0 ∨ model = 1) (script : List Int) (w : World) (hC : Rd44 lo hi w cv code) (hW : Rd4 lo hi w wv want) (hhi : hi ≤ w.heap.size) (hnv : nv.size ≤ 9223372036854775807)
    (hS : sndT nv.data.toList code want = true) (hSc : ScrRd w sv script) :
    Calls Try.prog 8 #[.agg #[.string nv, cv, wv], .int .i64 model, sv] w fun r w' => ∃ v, r = .returned (.tuple #[v, .bool (metS (codeR code).length (wantR want) (endS (codeR code).length (playS (codeR code) model script))), .int .i64 0]) ∧ Own w' w.heap.size 3 v (endS (codeR code).length (playS (codeR code) model script)) ∧ Below w.heap.size w w' := by
  have HC : Hid (Rd44 lo hi w cv code) := hC
  have HW : Hid (Rd4 lo hi w wv want) := hW
  obtain ⟨ca, cc, rfl, _⟩ := id hC
  obtain ⟨wa, wc, rfl, _⟩ := id hW
  have HSC : Hid (ScrRd w sv script) := hSc
  obtain ⟨sa, sc, rfl, _⟩ := id hSc
  have HS : Hid _ := hS
  have hb0 : Below w.heap.size w (w.alloc (.cells #[.string nv, .slice ca code.length cc, .slice wa want.length wc] 31)) := (Below.refl _ _).alloc (Nat.le_refl _) _
  have HB0 : Hid _ := hb0
  have HSN : Hid _ := isSound_any nv (.slice ca code.length cc) (.slice wa want.length wc) code want lo hi _ (Rd44.span HC.out (Span.of_below hb0 hhi)) (Rd4.span HW.out (Span.of_below hb0 hhi)) (by have := hb0.size; omega) hnv
  rw [HS.out] at HSN
  have HSND : Hid (SndC (codeR code)) := sndC_of HS.out
  have HSNW : Hid _ := sndW_of HS.out
  obtain ⟨cn, hcn⟩ : ∃ n, code.length = n := ⟨_, rfl⟩
  obtain ⟨wn, hwn⟩ : ∃ n, want.length = n := ⟨_, rfl⟩
  obtain ⟨sn, hsn⟩ : ∃ n, script.length = n := ⟨_, rfl⟩
  rw [hcn] at HC HB0 HSN ⊢
  rw [hwn] at HW HB0 HSN ⊢
  rw [hsn] at HSC ⊢
  clear hC hW hb0 hcn hwn hsn hSc hS
  have hm0 : ((model : Int) == 0) = decide (model = 0) := by rw [Bool.eq_iff_iff, beq_iff_eq, decide_eq_true_iff]; omega
  go_enter Try.func8, Try.ntmps8
  go_wp2_with fail
  refine Calls.mono HSN.out ?_
  rintro r w1 ⟨rfl, hb1⟩
  have HB1 : Hid (Below w.heap.size w w1) := HB0.out.trans (hb1.mono HB0.out.size)
  have t1 : w1.cell? ⟨w.heap.size, 1, none⟩ = some (.slice ca cn cc) := (hb1.cell (p := ⟨w.heap.size, 1, none⟩) (by simp)).trans (by simp)
  have t2 : w1.cell? ⟨w.heap.size, 2, none⟩ = some (.slice wa wn wc) := (hb1.cell (p := ⟨w.heap.size, 2, none⟩) (by simp)).trans (by simp)
  have hw1 : w.heap.size < w1.heap.size := by have := hb1.size; simp at this; omega
  have HCR : Hid _ := codesRd_of (Rd44.span HC.out (Span.of_below HB1.out hhi)) (by have := HB1.out.size; omega) HS.out
  have HWR : Hid _ := wantRd_of (Rd4.span HW.out (Span.of_below HB1.out hhi)) (by have := HB1.out.size; omega) HS.out
  have HPT : Hid _ := playTest_any (codeR code) model hm script (.slice ca cn cc) (.slice sa sn sc) w1 HCR.out HSND.out (ScrRd.kept HSC.out HB1.out)
  clear hb1
  rcases hm with rfl | rfl
  all_goals
    go_wp2_with fail
    refine Calls.mono HPT.out ?_
    rintro r w2 ⟨M, rfl, hP2⟩
    have HP2 : Hid _ := hP2
    have HB12 : Hid (Below w1.heap.size w1 w2) := PAt.below hP2
    have u2 : w2.cell? ⟨w.heap.size, 2, none⟩ = some (.slice wa wn wc) := (HB12.out.cell (p := ⟨w.heap.size, 2, none⟩) hw1).trans t2
    clear hP2
    go_wp2_with fail
    refine Calls.mono (numbers_any (codeR code) _ _ M w1 w2 HP2.out HSND.out) ?_
    rintro r w3 ⟨v3, rfl, hown3, hb3⟩
    have HO3 : Hid _ := hown3
    have HP3 : Hid _ := PAt.kept HP2.out hb3
    have HB2 : Hid (Below w.heap.size w w2) := HB1.out.trans (HB12.out.mono HB1.out.size)
    have HB3 : Hid (Below w.heap.size w w3) := HB2.out.trans (hb3.mono HB2.out.size)
    have x2 : w3.cell? ⟨w.heap.size, 2, none⟩ = some (.slice wa wn wc) := (hb3.cell (p := ⟨w.heap.size, 2, none⟩) (Nat.lt_of_lt_of_le hw1 HB12.out.size)).trans u2
    clear hown3 hb3 u2
    go_wp2_with fail
    refine Calls.mono (meets_any (codeR code) (wantR want) _ _ M _ w1 w3 HP3.out HSND.out HWR.out HSNW.out) ?_
    rintro r w4 ⟨rfl, hb4⟩
    have HB4 : Hid (Below w.heap.size w w4) := HB3.out.trans (hb4.mono HB3.out.size)
    have HO4 : Hid _ := Own.rebase (Own.kept HO3.out hb4) HB2.out.size
    clear hb4
    go_wp2
    go_ret3
    exact ⟨v3, rfl, HO4.out, HB4.out⟩

end Go.Proofs.Ytokfiflflcfidab
