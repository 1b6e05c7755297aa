import Derived.Test.YtokfiflflcfidaaRows
import Derived.Test.YtokfiflflcfidaaPrtR
import Derived.Test.YtokfiflflcfidaaPrtX
import Derived.Test.YtokfiflflcfidaaMadW
import Derived.Test.YtokfiflflcfidaaSndT
import Derived.WalkKit
import Derived.WalkSpells
import Derived.WalkLawsBesides
namespace Go.Proofs.Ytokfiflflcfidaa
open Go.RowKit

theorem numP_any (e : Int) (w : World) : Calls Try.prog 10 #[.int .i64 e] w fun r w' => r = .returned (.int .i64 e) ∧ w' = w := by
  go_enter Try.func10, Try.ntmps10
  go_wp2
  go_ret
  exact ⟨rfl, rfl⟩

set_option maxRecDepth 100000 in
set_option maxHeartbeats 1600000 in
/-- Prints -/
theorem prints_any (nv : ByteArray) (cv wv : Value) (code : List (List Q4)) (want : List Q4) (w : World) (hC : Rd44 0 w.heap.size w cv code) (hW : Rd4 0 w.heap.size w wv want) (hnv : nv.size ≤ 9223372036854775807)
    (b1 : code.length ≤ 5864062014700) (b2 : ∀ k : Nat, (code[k]?.getD []).length ≤ 4398046511000) (b3 : want.length ≤ 4398046511000) :
    Calls Try.prog 3 #[.agg #[.string nv, cv, wv]] w fun r w' => r = .returned (.bool true) ∧ Below w.heap.size w w' := by
  have HC : Hid (Rd44 0 w.heap.size w cv code) := hC
  have HW : Hid (Rd4 0 w.heap.size w wv want) := hW
  obtain ⟨ca, cc, rfl, _⟩ := id hC
  obtain ⟨wa, wc, rfl, _⟩ := id hW
  have hb0 : Below w.heap.size w (w.alloc (.cells #[.string nv, .slice ca code.length cc, .slice wa want.length wc] 25)) := (Below.refl _ _).alloc (Nat.le_refl _) _
  have HB0 : Hid _ := hb0
  have HM : Hid _ := made_any nv (.slice ca code.length cc) (.slice wa want.length wc) code want 0 w.heap.size _ (Rd44.span HC.out (Span.of_below hb0 (Nat.le_refl _))) (Rd4.span HW.out (Span.of_below hb0 (Nat.le_refl _))) hb0.size b1 b2 b3
  obtain ⟨cn, hcn⟩ : ∃ n, code.length = n := ⟨_, rfl⟩
  obtain ⟨wn, hwn⟩ : ∃ n, want.length = n := ⟨_, rfl⟩
  rw [hcn] at HC HB0 HM ⊢
  rw [hwn] at HW HB0 HM ⊢
  clear hC hW b1 b2 b3 hb0 hcn hwn
  have MAIN : ∀ B : Bool, sndT nv.data.toList code want = B → Calls Try.prog 3 #[.agg #[.string nv, .slice ca cn cc, .slice wa wn wc]] w fun r w' => r = .returned (.bool true) ∧ Below w.heap.size w w' := fun B hS => by
    have HS : Hid _ := hS
    clear hS
    go_enter Try.func3, Try.ntmps3
    go_wp2_with fail
    refine Calls.mono HM.out ?_
    rintro r w1 ⟨cv', wv', rfl, hC1, hW1, hb1⟩
    obtain ⟨ca', cc', hcv', _⟩ := id hC1
    obtain ⟨wa', wc', hwv', _⟩ := id hW1
    obtain ⟨cn', hcn'⟩ : ∃ n, code.length = n := ⟨_, rfl⟩
    obtain ⟨wn', hwn'⟩ : ∃ n, want.length = n := ⟨_, rfl⟩
    rw [hcn'] at hcv'
    rw [hwn'] at hwv'
    subst hcv' hwv'
    have hC1' : Rd44 (w.heap.size + 1) w1.heap.size w1 (.slice ca' cn' cc') code := by simpa using hC1
    have hW1' : Rd4 (w.heap.size + 1) w1.heap.size w1 (.slice wa' wn' wc') want := by simpa using hW1
    have HB1 : Hid (Below w.heap.size w w1) := HB0.out.trans (hb1.mono HB0.out.size)
    have t1 : ∀ o : Nat, w1.cell? ⟨w.heap.size, o, none⟩ = (w.alloc (.cells #[.string nv, .slice ca cn cc, .slice wa wn wc] 25)).cell? ⟨w.heap.size, o, none⟩ := fun o => hb1.cell (p := ⟨w.heap.size, o, none⟩) (by simp)
    have u0 : w1.cell? ⟨w.heap.size, 0, none⟩ = some (.string nv) := (t1 0).trans (by simp)
    have u1 : w1.cell? ⟨w.heap.size, 1, none⟩ = some (.slice ca cn cc) := (t1 1).trans (by simp)
    have u2 : w1.cell? ⟨w.heap.size, 2, none⟩ = some (.slice wa wn wc) := (t1 2).trans (by simp)
    have hw1 : w.heap.size < w1.heap.size := by have := hb1.size; simp at this; omega
    have HC1 : Hid (Rd44 (w.heap.size + 1) w1.heap.size w1 (.slice ca' cn' cc') code) := hC1'
    have HW1 : Hid (Rd4 (w.heap.size + 1) w1.heap.size w1 (.slice wa' wn' wc') want) := hW1'
    clear hC1 hW1 hC1' hW1' hb1 t1 hcn' hwn' HM
    have hba : Below w1.heap.size w1 (w1.alloc (.cells #[.string nv, .slice ca' cn' cc', .slice wa' wn' wc'] 29)) := (Below.refl _ _).alloc (Nat.le_refl _) _
    have HBA : Hid _ := hba
    have HBW : Hid (Below w.heap.size w (w1.alloc (.cells #[.string nv, .slice ca' cn' cc', .slice wa' wn' wc'] 29))) := HB1.out.trans (hba.mono HB1.out.size)
    have HSZ : Hid (w1.heap.size ≤ (w1.alloc (.cells #[.string nv, .slice ca' cn' cc', .slice wa' wn' wc'] 29)).heap.size) := hba.size
    have HCA : Hid _ := Rd44.span HC1.out (Span.of_below hba (Nat.le_refl _))
    have HWA : Hid _ := Rd4.span HW1.out (Span.of_below hba (Nat.le_refl _))
    clear hba
    cases B
    · go_wp2_with fail
      refine Calls.mono (pprint_bad nv (.slice ca' cn' cc') (.slice wa' wn' wc') code want _ _ _ HCA.out HWA.out HSZ.out hnv HS.out) ?_
      rintro r w2 ⟨rfl, hb2⟩
      have HB2 : Hid (Below w.heap.size w w2) := HBW.out.trans (hb2.mono HBW.out.size)
      have x0 : w2.cell? ⟨w.heap.size, 0, none⟩ = some (.string nv) := ((HBA.out.trans (hb2.mono HBA.out.size)).cell (p := ⟨w.heap.size, 0, none⟩) hw1).trans u0
      have x1 : w2.cell? ⟨w.heap.size, 1, none⟩ = some (.slice ca cn cc) := ((HBA.out.trans (hb2.mono HBA.out.size)).cell (p := ⟨w.heap.size, 1, none⟩) hw1).trans u1
      have x2 : w2.cell? ⟨w.heap.size, 2, none⟩ = some (.slice wa wn wc) := ((HBA.out.trans (hb2.mono HBA.out.size)).cell (p := ⟨w.heap.size, 2, none⟩) hw1).trans u2
      clear hb2 u0 u1 u2
      have HSO : Hid _ := sound_any nv (.slice ca cn cc) (.slice wa wn wc) code want 0 w.heap.size w2 (Rd44.span HC.out (Span.of_below HB2.out (Nat.le_refl _))) (Rd4.span HW.out (Span.of_below HB2.out (Nat.le_refl _))) HB2.out.size hnv
      rw [HS.out] at HSO
      go_wp2_with fail
      refine Calls.mono HSO.out ?_
      rintro r w3 ⟨rfl, hb3⟩
      have HB3 : Hid (Below w.heap.size w w3) := HB2.out.trans (hb3.mono HB2.out.size)
      clear hb3
      go_wp2_with (go_at_call 10; refine (numP_any _ _).mono ?_; rintro r w3 ⟨rfl, rfl⟩)
      go_ret
      exact ⟨rfl, HB3.out⟩
    · go_wp2_with fail
      refine Calls.mono (pprint_any nv (.slice ca' cn' cc') (.slice wa' wn' wc') code want _ _ _ HCA.out HWA.out HSZ.out hnv HS.out) ?_
      rintro r w2 ⟨rfl, hb2⟩
      have HB2 : Hid (Below w.heap.size w w2) := HBW.out.trans (hb2.mono HBW.out.size)
      have x0 : w2.cell? ⟨w.heap.size, 0, none⟩ = some (.string nv) := ((HBA.out.trans (hb2.mono HBA.out.size)).cell (p := ⟨w.heap.size, 0, none⟩) hw1).trans u0
      have x1 : w2.cell? ⟨w.heap.size, 1, none⟩ = some (.slice ca cn cc) := ((HBA.out.trans (hb2.mono HBA.out.size)).cell (p := ⟨w.heap.size, 1, none⟩) hw1).trans u1
      have x2 : w2.cell? ⟨w.heap.size, 2, none⟩ = some (.slice wa wn wc) := ((HBA.out.trans (hb2.mono HBA.out.size)).cell (p := ⟨w.heap.size, 2, none⟩) hw1).trans u2
      have hw2 : w.heap.size < w2.heap.size := by have := hb2.size; have := HSZ.out; omega
      clear hb2 u0 u1 u2
      have HSO : Hid _ := sound_any nv (.slice ca cn cc) (.slice wa wn wc) code want 0 w.heap.size w2 (Rd44.span HC.out (Span.of_below HB2.out (Nat.le_refl _))) (Rd4.span HW.out (Span.of_below HB2.out (Nat.le_refl _))) HB2.out.size hnv
      rw [HS.out] at HSO
      have HRP : Hid _ := fun wx hb => rprint_any nv (.slice ca cn cc) (.slice wa wn wc) code want 0 w.heap.size wx (Rd44.span HC.out (Span.of_below hb (Nat.le_refl _))) (Rd4.span HW.out (Span.of_below hb (Nat.le_refl _))) hb.size HS.out
      generalize (⟨(printL nv.data.toList code want).toArray⟩ : ByteArray) = pb at *
      go_wp2_with fail
      refine Calls.mono HSO.out ?_
      rintro r w3 ⟨rfl, hb3⟩
      have HB3 : Hid (Below w.heap.size w w3) := HB2.out.trans (hb3.mono HB2.out.size)
      have y0 : w3.cell? ⟨w.heap.size, 0, none⟩ = some (.string nv) := (hb3.cell (p := ⟨w.heap.size, 0, none⟩) hw2).trans x0
      have y1 : w3.cell? ⟨w.heap.size, 1, none⟩ = some (.slice ca cn cc) := (hb3.cell (p := ⟨w.heap.size, 1, none⟩) hw2).trans x1
      have y2 : w3.cell? ⟨w.heap.size, 2, none⟩ = some (.slice wa wn wc) := (hb3.cell (p := ⟨w.heap.size, 2, none⟩) hw2).trans x2
      clear hb3 x0 x1 x2
      go_wp2_with fail
      refine Calls.mono (HRP.out _ HB3.out) ?_
      rintro r w4 ⟨rfl, hb4⟩
      have HB4 : Hid (Below w.heap.size w w4) := HB3.out.trans (hb4.mono HB3.out.size)
      clear hb4 y0 y1 y2
      go_wp2_with (go_at_call 10; refine (numP_any _ _).mono ?_; rintro r w4 ⟨rfl, rfl⟩)
      go_ret
      exact ⟨by simp, HB4.out⟩
  exact MAIN _ rfl

end Go.Proofs.Ytokfiflflcfidaa
