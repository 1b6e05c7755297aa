import Derived.Test.YtokfiflflcfidaaRows
import Derived.Test.YtokfiflflcfidaaPsF
import Derived.Test.YtokfiflflcfidaaPsR
import Derived.Test.YtokfiflflcfidaaPrtX
import Derived.Test.YtokfiflflcfidaaMadW
import Derived.Test.YtokfiflflcfidaaGivW
import Derived.Test.YtokfiflflcfidaaSamV
import Derived.Test.YtokfiflflcfidaaSndT
import Derived.WalkKit
import Derived.WalkSpells
import Derived.WalkLawsBesides
namespace Go.Proofs.Ytokfiflflcfidaa
open Go.RowKit

theorem numY_any (e : Int) (w : World) : Calls Try.prog 10 #[.int .i64 e] w fun r w' => r = .returned (.int .i64 e) ∧ w' = w := by
  go_enter Try.func10, Try.ntmps10
  go_wp2
  go_ret
  exact ⟨rfl, rfl⟩
theorem sndT_len {nm : List UInt8} {code : List (List Q4)} {want : List Q4} (h : sndT nm code want = true) : code.length ≤ 16 ∧ (∀ k : Nat, (code[k]?.getD []).length ≤ 32) ∧ want.length ≤ 32 := by
  unfold sndT at h
  simp only [Bool.and_eq_true, decide_eq_true_eq] at h
  obtain ⟨⟨⟨⟨⟨⟨h1, _⟩, h2⟩, h3⟩, _⟩, h4⟩, _⟩ := h
  refine ⟨h2, fun k => ?_, h3⟩
  by_cases hk : k < code.length
  · have := List.all_eq_true.1 h4 code[k] (List.getElem_mem hk)
    unfold sndRow at this
    simp only [Bool.and_eq_true, decide_eq_true_eq] at this
    simp [hk]
    exact this.1.2
  · simp [hk]

set_option maxRecDepth 100000 in
set_option maxHeartbeats 1600000 in
/-- Returns -/
theorem returns_any (nv : ByteArray) (cv wv : Value) (code : List (List Q4)) (want : List Q4) (w : World) (hC : Rd44 0 w.heap.size w cv code) (hW : Rd4 0 w.heap.size w wv want) (hnv : nv.size ≤ 9223372036854775807) :
    Calls Try.prog 5 #[.agg #[.string nv, cv, wv]] w fun r w' => r = .returned (.bool true) ∧ Below w.heap.size w w' := by
  have HC : Hid (Rd44 0 w.heap.size w cv code) := hC
  have HW : Hid (Rd4 0 w.heap.size w wv want) := hW
  obtain ⟨ca, cc, rfl, _⟩ := id hC
  obtain ⟨wa, wc, rfl, _⟩ := id hW
  have hb0 : Below w.heap.size w (w.alloc (.cells #[.string nv, .slice ca code.length cc, .slice wa want.length wc] 25)) := (Below.refl _ _).alloc (Nat.le_refl _) _
  have HB0 : Hid _ := hb0
  have HSO : Hid _ := sound_any nv (.slice ca code.length cc) (.slice wa want.length wc) code want 0 w.heap.size _ (Rd44.span HC.out (Span.of_below hb0 (Nat.le_refl _))) (Rd4.span HW.out (Span.of_below hb0 (Nat.le_refl _))) hb0.size hnv
  obtain ⟨cn, hcn⟩ : ∃ n, code.length = n := ⟨_, rfl⟩
  obtain ⟨wn, hwn⟩ : ∃ n, want.length = n := ⟨_, rfl⟩
  rw [hcn] at HC HB0 HSO ⊢
  rw [hwn] at HW HB0 HSO ⊢
  clear hC hW hb0 hcn hwn
  cases hS : sndT nv.data.toList code want
  · rw [hS] at HSO
    clear hS
    go_enter Try.func5, Try.ntmps5
    go_wp2_with fail
    refine Calls.mono HSO.out ?_
    rintro r w1 ⟨rfl, hb1⟩
    have HB1 : Hid (Below w.heap.size w w1) := HB0.out.trans (hb1.mono HB0.out.size)
    clear hb1
    go_wp2
    go_ret
    exact ⟨rfl, HB1.out⟩
  · rw [hS] at HSO
    have HS : Hid _ := hS
    have HLE : Hid _ := sndT_len hS
    clear hS
    go_enter Try.func5, Try.ntmps5
    go_wp2_with fail
    refine Calls.mono HSO.out ?_
    rintro r w1 ⟨rfl, hb1⟩
    have HB1 : Hid (Below w.heap.size w w1) := HB0.out.trans (hb1.mono HB0.out.size)
    have u0 : w1.cell? ⟨w.heap.size, 0, none⟩ = some (.string nv) := (hb1.cell (p := ⟨w.heap.size, 0, none⟩) (by simp)).trans (by simp)
    have u1 : w1.cell? ⟨w.heap.size, 1, none⟩ = some (.slice ca cn cc) := (hb1.cell (p := ⟨w.heap.size, 1, none⟩) (by simp)).trans (by simp)
    have u2 : w1.cell? ⟨w.heap.size, 2, none⟩ = some (.slice wa wn wc) := (hb1.cell (p := ⟨w.heap.size, 2, none⟩) (by simp)).trans (by simp)
    have hw1 : w.heap.size < w1.heap.size := by have := hb1.size; simp at this; omega
    clear hb1
    have HM : Hid _ := made_any nv (.slice ca cn cc) (.slice wa wn wc) code want 0 w.heap.size w1 (Rd44.span HC.out (Span.of_below HB1.out (Nat.le_refl _))) (Rd4.span HW.out (Span.of_below HB1.out (Nat.le_refl _))) HB1.out.size (by have := HLE.out.1; omega) (fun k => by have := HLE.out.2.1 k; omega) (by have := HLE.out.2.2; omega)
    go_wp2_with fail
    refine Calls.mono HM.out ?_
    rintro r w2 ⟨cv', wv', rfl, hC2, hW2, hb2⟩
    have HB2 : Hid (Below w.heap.size w w2) := HB1.out.trans (hb2.mono HB1.out.size)
    have HK2 : Hid (Below w1.heap.size w1 w2) := hb2
    obtain ⟨ca', cc', hcv', _⟩ := id hC2
    obtain ⟨wa', wc', hwv', _⟩ := id hW2
    obtain ⟨cn', hcn'⟩ : ∃ n, code.length = n := ⟨_, rfl⟩
    obtain ⟨wn', hwn'⟩ : ∃ n, want.length = n := ⟨_, rfl⟩
    rw [hcn'] at hcv'
    rw [hwn'] at hwv'
    subst hcv' hwv'
    have HC2 : Hid (Rd44 w1.heap.size w2.heap.size w2 (.slice ca' cn' cc') code) := hC2
    have HW2 : Hid (Rd4 w1.heap.size w2.heap.size w2 (.slice wa' wn' wc') want) := hW2
    clear hC2 hW2 hb2 hcn' hwn' HM HSO
    have hba : Below w2.heap.size w2 (w2.alloc (.cells #[.string nv, .slice ca' cn' cc', .slice wa' wn' wc'] 29)) := (Below.refl _ _).alloc (Nat.le_refl _) _
    have HBA : Hid _ := hba
    have HCA : Hid _ := Rd44.span HC2.out (Span.of_below hba (Nat.le_refl _))
    have HWA : Hid _ := Rd4.span HW2.out (Span.of_below hba (Nat.le_refl _))
    have HSZ : Hid (w2.heap.size ≤ (w2.alloc (.cells #[.string nv, .slice ca' cn' cc', .slice wa' wn' wc'] 29)).heap.size) := hba.size
    clear hba
    go_wp2_with fail
    refine Calls.mono (pprint_any nv (.slice ca' cn' cc') (.slice wa' wn' wc') code want _ _ _ HCA.out HWA.out HSZ.out hnv HS.out) ?_
    rintro r w3 ⟨rfl, hb3⟩
    have HK3 : Hid (Below w1.heap.size w1 w3) := (HK2.out.trans (HBA.out.mono HK2.out.size)).trans (hb3.mono (Nat.le_trans HK2.out.size HBA.out.size))
    clear hb3
    have HPL : Hid _ := printL_len HS.out
    have HPS : Hid _ := ps_print HS.out
    have hda : (⟨(printL nv.data.toList code want).toArray⟩ : ByteArray).data.toList = printL nv.data.toList code want := by_data _
    have HPA : Hid _ := fun wx => parse_any ⟨(printL nv.data.toList code want).toArray⟩ (by rw [by_size]; exact HPL.out) wx
    rw [hda] at HPA
    obtain ⟨P, hP⟩ : ∃ P, printL nv.data.toList code want = P := ⟨_, rfl⟩
    rw [hP] at HPS HPA HPL ⊢
    have HPB : Hid _ := HPS.out.2.2.2.2
    rw [HPS.out.1, HPB.out] at HPA
    clear hda hP HPL
    generalize (⟨P.toArray⟩ : ByteArray) = pb at *
    go_wp2_with fail
    refine Calls.mono (HPA.out _) ?_
    rintro r w4 ⟨nv4, cv4, wv4, rfl, hp4, _, hb4⟩
    obtain ⟨hn4, hC4, hW4⟩ := hp4 HPS.out.1
    rw [HPS.out.2.1] at hn4
    rw [HPS.out.2.2.1] at hC4
    rw [HPS.out.2.2.2.1] at hW4
    have hnn : (⟨nv.data.toList.toArray⟩ : ByteArray) = nv := by simp
    rw [hnn] at hn4
    subst hn4
    have HK4 : Hid (Below w1.heap.size w1 w4) := HK3.out.trans (hb4.mono HK3.out.size)
    obtain ⟨ca4, cc4, hcv4, _⟩ := id hC4
    obtain ⟨wa4, wc4, hwv4, _⟩ := id hW4
    obtain ⟨cn4, hcn4⟩ : ∃ n, code.length = n := ⟨_, rfl⟩
    obtain ⟨wn4, hwn4⟩ : ∃ n, want.length = n := ⟨_, rfl⟩
    rw [hcn4] at hcv4
    rw [hwn4] at hwv4
    subst hcv4 hwv4
    have hb5 : Below w4.heap.size w4 (w4.alloc (.cells #[.string nv4, .slice ca4 cn4 cc4, .slice wa4 wn4 wc4] 29)) := (Below.refl _ _).alloc (Nat.le_refl _) _
    have HG : Hid _ := given_any nv4 (.slice ca4 cn4 cc4) (.slice wa4 wn4 wc4) code want _ _ _ (Rd44.span hC4 (Span.of_below hb5 (Nat.le_refl _))) (Rd4.span hW4 (Span.of_below hb5 (Nat.le_refl _))) hb5.size (by have := HLE.out.1; omega) (fun k => by have := HLE.out.2.1 k; omega) (by have := HLE.out.2.2; omega)
    have HK5 : Hid (Below w1.heap.size w1 (w4.alloc (.cells #[.string nv4, .slice ca4 cn4 cc4, .slice wa4 wn4 wc4] 29))) := HK4.out.trans (hb5.mono HK4.out.size)
    clear hC4 hW4 hb4 hb5 hp4 hcn4 hwn4 hnn
    go_wp2_with fail
    refine Calls.mono HG.out ?_
    rintro r w6 ⟨cv6, wv6, rfl, hC6, hW6, hb6⟩
    have HK6 : Hid (Below w1.heap.size w1 w6) := HK5.out.trans (hb6.mono HK5.out.size)
    obtain ⟨ca6, cc6, hcv6, _⟩ := id hC6
    obtain ⟨wa6, wc6, hwv6, _⟩ := id hW6
    obtain ⟨cn6, hcn6⟩ : ∃ n, code.length = n := ⟨_, rfl⟩
    obtain ⟨wn6, hwn6⟩ : ∃ n, want.length = n := ⟨_, rfl⟩
    rw [hcn6] at hcv6
    rw [hwn6] at hwv6
    subst hcv6 hwv6
    have hb7 : Below w6.heap.size w6 (w6.alloc (.cells #[.string nv4, .slice ca6 cn6 cc6, .slice wa6 wn6 wc6] 25)) := (Below.refl _ _).alloc (Nat.le_refl _) _
    have hK7 : Below w1.heap.size w1 (w6.alloc (.cells #[.string nv4, .slice ca6 cn6 cc6, .slice wa6 wn6 wc6] 25)) := HK6.out.trans (hb7.mono HK6.out.size)
    have HB7 : Hid (Below w.heap.size w (w6.alloc (.cells #[.string nv4, .slice ca6 cn6 cc6, .slice wa6 wn6 wc6] 25))) := HB1.out.trans (hK7.mono HB1.out.size)
    have HSA : Hid _ := same_any nv4 code want (.slice ca cn cc) (.slice wa wn wc) (.slice ca6 cn6 cc6) (.slice wa6 wn6 wc6) 0 w.heap.size _ _ _ (Rd44.span HC.out (Span.of_below HB7.out (Nat.le_refl _))) (Rd4.span HW.out (Span.of_below HB7.out (Nat.le_refl _))) (Rd44.span hC6 (Span.of_below hb7 (Nat.le_refl _))) (Rd4.span hW6 (Span.of_below hb7 (Nat.le_refl _))) HB7.out.size hb7.size (by have := HLE.out.1; omega) (fun k => by have := HLE.out.2.1 k; omega) (by have := HLE.out.2.2; omega)
    have x0 : w6.cell? ⟨w.heap.size, 0, none⟩ = some (.string nv4) := (HK6.out.cell (p := ⟨w.heap.size, 0, none⟩) hw1).trans u0
    have x1 : w6.cell? ⟨w.heap.size, 1, none⟩ = some (.slice ca cn cc) := (HK6.out.cell (p := ⟨w.heap.size, 1, none⟩) hw1).trans u1
    have x2 : w6.cell? ⟨w.heap.size, 2, none⟩ = some (.slice wa wn wc) := (HK6.out.cell (p := ⟨w.heap.size, 2, none⟩) hw1).trans u2
    have hw6 : w.heap.size < w6.heap.size := by have := HK6.out.size; omega
    clear hC6 hW6 hb6 hb7 hK7 hcn6 hwn6 HG u0 u1 u2
    go_wp2_with fail
    refine Calls.mono HSA.out ?_
    rintro r w8 ⟨rfl, hb8⟩
    have HB8 : Hid (Below w.heap.size w w8) := HB7.out.trans (hb8.mono HB7.out.size)
    clear hb8
    go_wp2_with (go_at_call 10; refine (numY_any _ _).mono ?_; rintro r w8 ⟨rfl, rfl⟩)
    go_ret
    exact ⟨rfl, HB8.out⟩

end Go.Proofs.Ytokfiflflcfidaa
