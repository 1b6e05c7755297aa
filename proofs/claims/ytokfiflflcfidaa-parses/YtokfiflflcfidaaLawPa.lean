import Derived.Test.YtokfiflflcfidaaRows
import Derived.Test.YtokfiflflcfidaaLawR
import Derived.Test.YtokfiflflcfidaaSkE
import Derived.Test.YtokfiflflcfidaaSkF
import Derived.Test.YtokfiflflcfidaaPrtR
import Derived.WalkKit
import Derived.WalkSpells
import Derived.WalkLawsBesides
namespace Go.Proofs.Ytokfiflflcfidaa
open Go.RowKit

theorem Try.nilCodeP (w : World) : Sem.run Try.prog (binOp BinOp.eql 26 (.slice none 0 0) (.slice none 0 0)) w = .ok (.bool true) w := by kernel_rfl
theorem Try.nilWantP (w : World) : Sem.run Try.prog (binOp BinOp.eql 27 (.slice none 0 0) (.slice none 0 0)) w = .ok (.bool true) w := by kernel_rfl
set_option maxRecDepth 100000 in
set_option maxHeartbeats 400000 in
theorem nothingP_any (w : World) :
    Calls Try.prog 13 #[.agg #[.string ⟨#[]⟩, .slice none 0 0, .slice none 0 0]] w fun r w' => r = .returned (.bool true) ∧ Below w.heap.size w w' := by
  have h1 := Try.nilCodeP
  have h2 := Try.nilWantP
  go_enter Try.func13, Try.ntmps13
  go_wp2
  go_ret
  exact ⟨rfl, (Below.refl _ _).alloc (Nat.le_refl _) _⟩

set_option maxRecDepth 100000 in
set_option maxHeartbeats 800000 in
theorem parse_long (s : ByteArray) (hs : 4096 < s.size) (w : World) :
    Calls Try.prog 12 #[.string s] w fun r w' => r = .returned (.tuple #[.agg #[.string ⟨#[]⟩, .slice none 0 0, .slice none 0 0], .int .i64 1, .int .i64 0]) ∧ Below w.heap.size w w' := by
  have hsi : (4096 : Int) < (s.size : Int) := by omega
  have HB2 : Hid (Below (w.heap.size + 1) (w.alloc (.cells #[.string ⟨#[]⟩, .slice none 0 0, .slice none 0 0] 29)) (w.alloc (.cells #[.string ⟨#[]⟩, .slice none 0 0, .slice none 0 0] 29))) := Below.refl _ _
  obtain ⟨hF1, hF2, r0, r1, r2, f0, f1, f2⟩ := fin3P HB2.out (B := w.heap.size + 1) (Nat.le_refl _) (.string ⟨#[]⟩) (.slice none 0 0) (.slice none 0 0)
  have HF2 : Hid _ := hF2
  clear hF1 hF2 hs
  go_enter Try.func12, Try.ntmps12
  go_wp2
  refine bodyPost_ret (v := .tuple #[.agg #[.string ⟨#[]⟩, .slice none 0 0, .slice none 0 0], .int .i64 1, .int .i64 0]) (by simp [results, Try.results12, go_sem, r0, r1, r2]) rfl ⟨rfl, ?_⟩
  first | exact HF2.out | (repeat (first | exact Below.refl _ _ | refine Below.setCell ?_ (Nat.le_refl _) _ | refine Below.alloc ?_ (Nat.le_refl _) _))

set_option maxRecDepth 100000 in
set_option maxHeartbeats 1600000 in
/-- Parses -/
theorem parses_any (s : ByteArray) (hsz : s.size ≤ 9223372036854775807) (w : World) :
    Calls Try.prog 4 #[.string s] w fun r w' => r = .returned (.bool true) ∧ Below w.heap.size w w' := by
  by_cases hlg : 4096 < s.size
  · have hli : (4096 : Int) < (s.size : Int) := by omega
    have HPL : Hid _ := parse_long s hlg w
    clear hlg
    go_enter Try.func4, Try.ntmps4
    go_wp2_with fail
    refine Calls.mono HPL.out ?_
    rintro r w1 ⟨rfl, hb1⟩
    have HB1 : Hid (Below w.heap.size w w1) := hb1
    have HBA : Hid (Below w.heap.size w (w1.alloc (.cells #[.string ⟨#[]⟩, .slice none 0 0, .slice none 0 0] 29))) := hb1.alloc hb1.size _
    have HNO : Hid _ := nothingP_any (w1.alloc (.cells #[.string ⟨#[]⟩, .slice none 0 0, .slice none 0 0] 29))
    clear hb1
    go_wp2_with fail
    refine Calls.mono HNO.out ?_
    rintro r w2 ⟨rfl, hb2⟩
    have HB2 : Hid (Below w.heap.size w w2) := HBA.out.trans (hb2.mono HBA.out.size)
    clear hb2
    go_wp2_with (go_at_call 10; refine (numY_any _ _).mono ?_; rintro r w2 ⟨rfl, rfl⟩)
    go_ret
    exact ⟨rfl, HB2.out⟩
  · have hli : ¬ ((4096 : Int) < (s.size : Int)) := by omega
    have HPA : Hid _ := parse_any s (by omega) w
    have HSK : Hid _ := fun wx => stuck_any s (by omega) wx
    obtain ⟨A, hA⟩ : ∃ n, psAt s.data.toList = n := ⟨_, rfl⟩
    obtain ⟨K, hK⟩ : ∃ n, psOk s.data.toList = n := ⟨_, rfl⟩
    have HA0 : Hid (K = true → A = 0) := fun h => by rw [← hA]; exact psAt_ok (hK.trans h)
    rw [hA, hK] at HPA HSK
    have HK : Hid _ := hK
    clear hlg hA hK
    cases K
    · have HSK2 : Hid (∀ wx, Calls Try.prog 14 #[.string s] wx fun r w' => r = .returned (.int .i64 (A : Int)) ∧ Below wx.heap.size wx w') := fun wx => HSK.out wx
      have HPA2 : Hid (Calls Try.prog 12 #[.string s] w fun r w' => ∃ nv cv wv, r = .returned (.tuple #[.agg #[.string nv, cv, wv], .int .i64 10, .int .i64 (A : Int)]) ∧ PsPost s.data.toList w w' nv cv wv) := HPA.out
      clear HSK HPA
      have hA0 : (0 : Int) ≤ (A : Int) := by omega
      go_enter Try.func4, Try.ntmps4
      go_wp2_with fail
      refine Calls.mono HPA2.out ?_
      rintro r w1 ⟨nv, cv, wv, rfl, _, hp2, hb1⟩
      obtain ⟨rfl, rfl, rfl⟩ := hp2 HK.out
      have HBA : Hid (Below w.heap.size w (w1.alloc (.cells #[.string ⟨#[]⟩, .slice none 0 0, .slice none 0 0] 29))) := hb1.alloc hb1.size _
      have hw1 : w.heap.size ≤ w1.heap.size := hb1.size
      clear hb1 hp2
      go_wp2_with fail
      refine Calls.mono (HSK2.out _) ?_
      rintro r w2 ⟨rfl, hb2⟩
      have HB2 : Hid (Below w.heap.size w w2) := HBA.out.trans (hb2.mono HBA.out.size)
      have t0 : w2.cell? ⟨w1.heap.size, 0, none⟩ = some (.string ⟨#[]⟩) := (hb2.cell (p := ⟨w1.heap.size, 0, none⟩) (by simp)).trans (by simp)
      have t1 : w2.cell? ⟨w1.heap.size, 1, none⟩ = some (.slice none 0 0) := (hb2.cell (p := ⟨w1.heap.size, 1, none⟩) (by simp)).trans (by simp)
      have t2 : w2.cell? ⟨w1.heap.size, 2, none⟩ = some (.slice none 0 0) := (hb2.cell (p := ⟨w1.heap.size, 2, none⟩) (by simp)).trans (by simp)
      have HNO : Hid _ := nothingP_any w2
      clear hb2
      go_wp2_with fail
      refine Calls.mono HNO.out ?_
      rintro r w3 ⟨rfl, hb3⟩
      have HB3 : Hid (Below w.heap.size w w3) := HB2.out.trans (hb3.mono HB2.out.size)
      clear hb3
      go_wp2_with (go_at_call 10; refine (numY_any _ _).mono ?_; rintro r w3 ⟨rfl, rfl⟩)
      go_ret
      exact ⟨by first | rfl | simp, HB3.out⟩
    · have HAZ : Hid (A = 0) := HA0.out rfl
      have HSK2 : Hid (∀ wx, Calls Try.prog 14 #[.string s] wx fun r w' => r = .returned (.int .i64 (-1)) ∧ Below wx.heap.size wx w') := fun wx => HSK.out wx
      have HPA2 : Hid (Calls Try.prog 12 #[.string s] w fun r w' => ∃ nv cv wv, r = .returned (.tuple #[.agg #[.string nv, cv, wv], .int .i64 0, .int .i64 0]) ∧ PsPost s.data.toList w w' nv cv wv) := by
        have := HPA.out
        rw [HAZ.out] at this
        exact this
      have HPS : Hid _ := ps_sound HK.out
      have HPP : Hid _ := print_ps HK.out
      have HLE : Hid _ := sndT_len HPS.out
      clear HSK HPA HA0
      go_enter Try.func4, Try.ntmps4
      go_wp2_with fail
      refine Calls.mono HPA2.out ?_
      rintro r w1 ⟨nv, cv, wv, rfl, hp1, _, hb1⟩
      obtain ⟨hnv, hC, hW⟩ := hp1 HK.out
      have HNV : Hid (nv.data.toList = psNm s.data.toList) := by show _ = _; rw [hnv]
      have HNS : Hid (nv.size ≤ 9223372036854775807) := by
        show _ ≤ _
        rw [← szD, HNV.out]
        have := HPS.out
        unfold sndT at this
        simp only [Bool.and_eq_true, decide_eq_true_eq] at this
        have := this.1.1.1.1.1.1
        omega
      generalize psC s.data.toList = C at *
      generalize psW s.data.toList = W at *
      rw [← HNV.out] at HPS HPP
      obtain ⟨ca, cc, hcv, _⟩ := id hC
      obtain ⟨wa, wc, hwv, _⟩ := id hW
      obtain ⟨cn, hcn⟩ : ∃ n, C.length = n := ⟨_, rfl⟩
      obtain ⟨wn, hwn⟩ : ∃ n, W.length = n := ⟨_, rfl⟩
      rw [hcn] at hcv
      rw [hwn] at hwv
      subst hcv hwv
      have HC1 : Hid (Rd44 w.heap.size w1.heap.size w1 (.slice ca cn cc) C) := hC
      have HW1 : Hid (Rd4 w.heap.size w1.heap.size w1 (.slice wa wn wc) W) := hW
      have hba : Below w1.heap.size w1 (w1.alloc (.cells #[.string nv, .slice ca cn cc, .slice wa wn wc] 29)) := (Below.refl _ _).alloc (Nat.le_refl _) _
      have HBA1 : Hid _ := hba
      have HBA : Hid (Below w.heap.size w (w1.alloc (.cells #[.string nv, .slice ca cn cc, .slice wa wn wc] 29))) := hb1.trans (hba.mono hb1.size)
      clear hb1 hp1 hC hW hba hcn hwn hnv
      go_wp2_with fail
      refine Calls.mono (HSK2.out _) ?_
      rintro r w2 ⟨rfl, hb2⟩
      have HB2 : Hid (Below w.heap.size w w2) := HBA.out.trans (hb2.mono HBA.out.size)
      have HB12 : Hid (Below w1.heap.size w1 w2) := HBA1.out.trans (hb2.mono HBA1.out.size)
      have t0 : w2.cell? ⟨w1.heap.size, 0, none⟩ = some (.string nv) := (hb2.cell (p := ⟨w1.heap.size, 0, none⟩) (by simp)).trans (by simp)
      have t1 : w2.cell? ⟨w1.heap.size, 1, none⟩ = some (.slice ca cn cc) := (hb2.cell (p := ⟨w1.heap.size, 1, none⟩) (by simp)).trans (by simp)
      have t2 : w2.cell? ⟨w1.heap.size, 2, none⟩ = some (.slice wa wn wc) := (hb2.cell (p := ⟨w1.heap.size, 2, none⟩) (by simp)).trans (by simp)
      clear hb2
      have HG : Hid _ := given_any nv (.slice ca cn cc) (.slice wa wn wc) C W _ _ w2 (Rd44.span HC1.out (Span.of_below HB12.out (Nat.le_refl _))) (Rd4.span HW1.out (Span.of_below HB12.out (Nat.le_refl _))) HB12.out.size (by have := HLE.out.1; omega) (fun k => by have := HLE.out.2.1 k; omega) (by have := HLE.out.2.2; omega)
      go_wp2_with fail
      refine Calls.mono HG.out ?_
      rintro r w3 ⟨cv3, wv3, rfl, hC3, hW3, hb3⟩
      have HB3 : Hid (Below w.heap.size w w3) := HB2.out.trans (hb3.mono HB2.out.size)
      obtain ⟨ca3, cc3, hcv3, _⟩ := id hC3
      obtain ⟨wa3, wc3, hwv3, _⟩ := id hW3
      obtain ⟨cn3, hcn3⟩ : ∃ n, C.length = n := ⟨_, rfl⟩
      obtain ⟨wn3, hwn3⟩ : ∃ n, W.length = n := ⟨_, rfl⟩
      rw [hcn3] at hcv3
      rw [hwn3] at hwv3
      subst hcv3 hwv3
      have HC3 : Hid (Rd44 w2.heap.size w3.heap.size w3 (.slice ca3 cn3 cc3) C) := hC3
      have HW3 : Hid (Rd4 w2.heap.size w3.heap.size w3 (.slice wa3 wn3 wc3) W) := hW3
      have hb4 : Below w3.heap.size w3 (w3.alloc (.cells #[.string nv, .slice ca3 cn3 cc3, .slice wa3 wn3 wc3] 25)) := (Below.refl _ _).alloc (Nat.le_refl _) _
      have HB4 : Hid (Below w.heap.size w (w3.alloc (.cells #[.string nv, .slice ca3 cn3 cc3, .slice wa3 wn3 wc3] 25))) := HB3.out.trans (hb4.mono HB3.out.size)
      have HK4 : Hid _ := hb4
      have HSO : Hid _ := sound_any nv (.slice ca3 cn3 cc3) (.slice wa3 wn3 wc3) C W _ _ _ (Rd44.span HC3.out (Span.of_below hb4 (Nat.le_refl _))) (Rd4.span HW3.out (Span.of_below hb4 (Nat.le_refl _))) hb4.size HNS.out
      rw [HPS.out] at HSO
      clear hC3 hW3 hb3 hb4 hcn3 hwn3 HG t0 t1 t2
      go_wp2_with (first | (go_at_call 10; refine (numY_any _ _).mono ?_; rintro r w4 ⟨rfl, hw4⟩; subst hw4))
      refine Calls.mono HSO.out ?_
      rintro r w5 ⟨rfl, hb5⟩
      have HB5 : Hid (Below w.heap.size w w5) := HB4.out.trans (hb5.mono HB4.out.size)
      have HK5 : Hid (Below w3.heap.size w3 w5) := HK4.out.trans (hb5.mono HK4.out.size)
      have x0 : w5.cell? ⟨w3.heap.size, 0, none⟩ = some (.string nv) := (hb5.cell (p := ⟨w3.heap.size, 0, none⟩) (by simp)).trans (by simp)
      have x1 : w5.cell? ⟨w3.heap.size, 1, none⟩ = some (.slice ca3 cn3 cc3) := (hb5.cell (p := ⟨w3.heap.size, 1, none⟩) (by simp)).trans (by simp)
      have x2 : w5.cell? ⟨w3.heap.size, 2, none⟩ = some (.slice wa3 wn3 wc3) := (hb5.cell (p := ⟨w3.heap.size, 2, none⟩) (by simp)).trans (by simp)
      have HRP : Hid _ := rprint_any nv (.slice ca3 cn3 cc3) (.slice wa3 wn3 wc3) C W _ _ w5 (Rd44.span HC3.out (Span.of_below HK5.out (Nat.le_refl _))) (Rd4.span HW3.out (Span.of_below HK5.out (Nat.le_refl _))) HK5.out.size HPS.out
      have HSS : Hid ((⟨(printL nv.data.toList C W).toArray⟩ : ByteArray) = s) := by show _ = _; rw [HPP.out]
      rw [HSS.out] at HRP
      clear hb5 HSO
      go_wp2_with fail
      refine Calls.mono HRP.out ?_
      rintro r w6 ⟨rfl, hb6⟩
      have HB6 : Hid (Below w.heap.size w w6) := HB5.out.trans (hb6.mono HB5.out.size)
      clear hb6
      go_wp2
      go_ret
      exact ⟨by first | rfl | simp, HB6.out⟩

end Go.Proofs.Ytokfiflflcfidaa
