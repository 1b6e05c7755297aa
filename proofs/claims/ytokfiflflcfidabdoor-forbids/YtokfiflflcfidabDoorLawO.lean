import Derived.Test.YtokfiflflcfidabDoorRows
import Derived.Test.YtokfiflflcfidabDoorHapZ
import Derived.Test.YtokfiflflcfidabDoorBldU
import Derived.Test.YtokfiflflcfidabDoorFbdM
import Derived.WalkKit
import Derived.WalkSpells
import Derived.WalkLawsBesides
import Derived.Test.YtokfiflflcfidabDoorLawF
import Derived.Test.YtokfiflflcfidabDoorQtoR
namespace Go.Proofs.YtokfiflflcfidabDoor
open Go.RowKit

/-- what Label answers: yes, the error and its place -/
def lbY (s : List UInt8) (m : Int) : Bool := decide ((rd s).1 = 0) && (decide (m = 1) && shown (ringL s))
def lbE (s : List UInt8) (m : Int) : Nat := if (rd s).1 = 0 then (if m = 0 ∨ m = 1 then 0 else 7) else (rd s).1
def lbP (s : List UInt8) : Nat := (rd s).2
theorem lb_no {s : List UInt8} (m : Int) (h : (rd s).1 ≠ 0) : lbY s m = false ∧ lbE s m = (rd s).1 := by
  unfold lbY lbE
  rw [decide_eq_false h, if_neg h]
  exact ⟨rfl, rfl⟩
theorem lb_model {s : List UInt8} {m : Int} (h : (rd s).1 = 0) (h0 : m ≠ 0) (h1 : m ≠ 1) : lbY s m = false ∧ lbE s m = 7 := by
  unfold lbY lbE
  rw [decide_eq_false h1, if_pos h, if_neg (by omega)]
  simp
theorem lb_zero {s : List UInt8} (h : (rd s).1 = 0) : lbY s 0 = false ∧ lbE s 0 = 0 := by
  unfold lbY lbE
  rw [if_pos h, if_pos (Or.inl rfl)]
  simp
theorem lb_one {s : List UInt8} (h : (rd s).1 = 0) : lbY s 1 = shown (ringL s) ∧ lbE s 1 = 0 := by
  unfold lbY lbE
  rw [if_pos h, if_pos (Or.inr rfl), h]
  simp

set_option maxRecDepth 100000 in
set_option maxHeartbeats 800000 in
theorem label_any (s : ByteArray) (hs : s.size ≤ 9223372036854775807) (m : Int) (w : World) (hT : TabN w) :
    Calls Tryd.prog 9 #[.string s, .int .i64 m] w fun r w' => r = .returned (.tuple #[.bool (lbY s.data.toList m), .int .i64 (lbE s.data.toList m : Nat), .int .i64 (lbP s.data.toList : Nat)]) ∧ Below w.heap.size w w' := by
  go_enter Tryd.func9, Tryd.ntmps9
  go_wp2_with fail
  refine (readCycle_any s hs _ hT).mono ?_
  rintro r w1 ⟨v, rfl, hyes, hno, hb1⟩
  have HP : Hid (lbP s.data.toList = (rd s.data.toList).2) := rfl
  by_cases h0 : (rd s.data.toList).1 = 0
  · obtain ⟨hown, _⟩ := hyes h0
    have hrr := rd_ring h0
    have hz := rd_zero h0
    have HZ : Hid _ := hz
    have HR : Hid _ := hrr
    have hl := hrr.2.2.2.2.2.2
    have hl2 : (edgesOf s.data.toList).length ≤ 16 := by have h1 := hrr.2.2.1; have h2 := hrr.2.2.2.2.1; omega
    obtain ⟨g1, c1, hv1, hg1, hG1⟩ := hown.shape hl
    subst hv1
    have H0 : Hid _ := h0
    have HB1 : Hid _ := hb1
    have HP2 : Hid (lbP s.data.toList = 0) := hz.1
    rw [h0]
    clear hyes hno hown h0 hrr hz hb1
    by_cases hm0 : m = 0
    · subst hm0
      have HLB : Hid _ := lb_zero H0.out
      go_wp2
      go_ret3
      exact ⟨by rw [HLB.out.1, HLB.out.2, HP2.out]; rfl, HB1.out⟩
    · by_cases hm1 : m = 1
      · subst hm1
        have HLB : Hid _ := lb_one H0.out
        clear hm0
        go_wp2_with fail
        refine (leastRotation_any (edgesOf s.data.toList) g1 0 c1 _ hG1 hl (by omega)).mono ?_
        rintro r w2 ⟨v2, rfl, hown2, hb2⟩
        have hll : (leastOf (edgesOf s.data.toList)).length = (edgesOf s.data.toList).length := leastTo_length _ _
        obtain ⟨g2, c2, hv2, hg2, hG2⟩ := hown2.shape (by rw [hll]; exact hl)
        have HB2 : Hid (Below w.heap.size w w2) := HB1.out.trans (hb2.mono HB1.out.size)
        have hC0 : 0 < (leastOf (edgesOf s.data.toList)).countP lC := by
          rw [← ring_count lC _ (by rw [hll]; exact hl)]; exact HR.out.1.toLay.some
        have hce := cycleEvents_any (leastOf (edgesOf s.data.toList)) g2 0 c2 w2 hG2 HR.out.2.2.2.2.2.1 (by rw [hll]; exact hl) (by rw [hll]; omega) hC0
        rw [hll] at hce hv2
        subst hv2
        have HCE : Hid _ := hce
        clear hce hown2 hb2 hC0 hll
        go_wp2_with fail
        refine Calls.mono HCE.out ?_
        rintro r w3 ⟨v3, rfl, hown3, hb3⟩
        have hrl : (ringL s.data.toList).length = (edgesOf s.data.toList).length := HR.out.2.2.2.2.1
        have hown3' : Own5 w3 w2.heap.size 110 v3 (ringL s.data.toList) (ringL s.data.toList).length := by
          have e1 : (leastOf (edgesOf s.data.toList)).length = (edgesOf s.data.toList).length := leastTo_length _ _
          rw [hrl]
          have : ringL s.data.toList = turn (leastOf (edgesOf s.data.toList)) (outTo (leastOf (edgesOf s.data.toList)) (edgesOf s.data.toList).length % (edgesOf s.data.toList).length) := by
            show ringOf (leastOf (edgesOf s.data.toList)) = _
            unfold ringOf
            rw [e1]
          rw [this]
          exact hown3
        obtain ⟨g3, c3, hv3, hg3, hP3⟩ := Own5.shape hown3' (by rw [hrl]; exact hl)
        subst hv3
        have HB3 : Hid (Below w.heap.size w w3) := HB2.out.trans (hb3.mono HB2.out.size)
        have hl16 : (ringL s.data.toList).length ≤ 64 := by omega
        have HHP : Hid _ := happenings_any (ringL s.data.toList) g3 c3 w3 hP3 HR.out.1.small hl16
        clear hown3 hown3' hb3 hrl hP3
        go_wp2_with fail
        refine Calls.mono HHP.out ?_
        rintro r w4 ⟨v4, rfl, hy4, hn4, hb4⟩
        have HB4 : Hid (Below w.heap.size w w4) := HB3.out.trans (hb4.mono HB3.out.size)
        clear hy4 hn4 hb4
        go_wp2
        go_ret3
        exact ⟨by rw [HLB.out.1, HLB.out.2, HP2.out]; rfl, HB4.out⟩
      · have HLB : Hid _ := lb_model H0.out hm0 hm1
        have hm0I : (m == 0) = false := by rw [beq_eq_false_iff_ne]; exact hm0
        have hm1I : (m == 1) = false := by rw [beq_eq_false_iff_ne]; exact hm1
        have hm0N : (m != 0) = true := by rw [bne_iff_ne]; exact hm0
        have hm1N : (m != 1) = true := by rw [bne_iff_ne]; exact hm1
        clear hm0 hm1
        go_wp2
        go_ret3
        exact ⟨by rw [HLB.out.1, HLB.out.2, HP2.out]; rfl, HB1.out⟩
  · have hv := hno h0
    subst hv
    have h0i : (((rd s.data.toList).1 : Int) == 0) = false := by rw [beq_eq_false_iff_ne]; omega
    have HLB : Hid _ := lb_no (s := s.data.toList) m h0
    clear hyes hno h0
    go_wp2
    go_ret3
    exact ⟨by rw [HLB.out.1, HLB.out.2, HP.out]; rfl, hb1⟩

end Go.Proofs.YtokfiflflcfidabDoor

namespace Go.Proofs.YtokfiflflcfidabDoor
open Go.RowKit

set_option maxRecDepth 100000 in
set_option maxHeartbeats 1600000 in
theorem forbids_any (s : ByteArray) (hs : s.size ≤ 9223372036854775807) (sv : Value) (script : List Int) (w : World) (hSc : ScrRd w sv script) (hlen : script.length ≤ 9223372036854775807) (hT : TabN w) (hTR : TabR w) :
    Calls Tryd.prog 5 #[.string s, sv] w fun r w' => r = .returned (.bool true) ∧ Below w.heap.size w w' := by
  have HSC : Hid _ := hSc
  obtain ⟨sa, sc, rfl, hsc⟩ := hSc
  clear hsc
  go_enter Tryd.func5, Tryd.ntmps5
  go_wp2_with fail
  refine (read_any s hs _ hTR).mono ?_
  rintro r w1 ⟨v, rfl, hyes, hno, hb1⟩
  by_cases h0 : (rd s.data.toList).1 = 0
  · obtain ⟨g, go, gc, rfl, hgl, hG⟩ := hyes h0
    obtain ⟨hR, hlast, h16, hbl, hrl, hE, hpos⟩ := rd_ring h0
    have hbd := built_any s hs g go gc w1 hG h0 (hT.kept hb1) (hTR.kept hb1)
    have hbe : (baseL s.data.toList).length = (edgesOf s.data.toList).length := hbl
    rw [hbe] at hbd
    have HBD : Hid _ := hbd
    have hS := ring_sndC _ hR h16 hlast
    have hW := ring_sndW _ hR h16 hlast
    have hC16 : (ringL s.data.toList).countP lC ≤ 16 := Nat.le_trans List.countP_le_length h16
    have HFB : Hid (metS ((ringL s.data.toList).countP lT) (wantOf (ringL s.data.toList)) (endS ((ringL s.data.toList).countP lT) (playS (codeOf (ringL s.data.toList)) 1 script)) = true → shown (ringL s.data.toList) = true) := forbids_core _ hR h16 hlast hC16 hS script
    have HS : Hid _ := hS
    have HW : Hid _ := hW
    have HCL : Hid _ := codeOf_length (ringL s.data.toList)
    have HLB : Hid _ := lb_one h0
    rw [h0]
    clear hyes hno hbd hR hlast h16 hbl hrl hE hbe hgl h0 hS hW hC16 hpos
    go_wp2_with fail
    refine Calls.mono HBD.out ?_
    rintro r w2 ⟨nv, ca, cn, cc, wa, wn, wc, g2, c2, rfl, hC, hWt, hEA, hg2, hb2⟩
    have hbb : Below w.heap.size w w2 := hb1.trans (hb2.mono hb1.size)
    have hbt : Below w2.heap.size w2 (w2.alloc (.cells #[.string nv, .slice ca cn cc, .slice wa wn wc] 33)) := (Below.refl _ _).alloc (Nat.le_refl _) _
    have hbbt : Below w.heap.size w (w2.alloc (.cells #[.string nv, .slice ca cn cc, .slice wa wn wc] 33)) := hbb.trans (hbt.mono hbb.size)
    have HLA : Hid _ := label_any s hs 1 _ (hT.kept hbbt)
    have HC : Hid _ := hC
    have HWT : Hid _ := hWt
    have HBT : Hid _ := hbt
    have HBBT : Hid _ := hbbt
    clear hbt hC hWt hEA hbb hb2 hbbt
    go_wp2_with fail
    refine Calls.mono HLA.out ?_
    rintro r w3 ⟨rfl, hb3⟩
    rw [HLB.out.1, HLB.out.2]
    have y0 : w3.cell? ⟨w2.heap.size, 0, none⟩ = some (.string nv) := (hb3.cell (p := ⟨w2.heap.size, 0, none⟩) (by simp)).trans (by simp)
    have y1 : w3.cell? ⟨w2.heap.size, 1, none⟩ = some (.slice ca cn cc) := (hb3.cell (p := ⟨w2.heap.size, 1, none⟩) (by simp)).trans (by simp)
    have y2 : w3.cell? ⟨w2.heap.size, 2, none⟩ = some (.slice wa wn wc) := (hb3.cell (p := ⟨w2.heap.size, 2, none⟩) (by simp)).trans (by simp)
    have hb23 : Below w2.heap.size w2 w3 := HBT.out.trans (hb3.mono HBT.out.size)
    have hC2 := codes_of (Rd44.span HC.out (Span.of_below hb23 (Nat.le_refl _))) hb23.size HS.out
    have hW2 := want_of (Rd4.span HWT.out (Span.of_below hb23 (Nat.le_refl _))) hb23.size
    have hbb3 : Below w.heap.size w w3 := HBBT.out.trans (hb3.mono HBBT.out.size)
    have hplay := play_any (codeOf (ringL s.data.toList)) (wantOf (ringL s.data.toList)) script 1 nv (.slice ca cn cc) (.slice wa wn wc) (.slice sa script.length sc) _ hC2 HS.out (Or.inr rfl) hW2 HW.out (ScrRd.kept HSC.out hbb3) hlen
    rw [HCL.out] at hplay
    have HPL : Hid _ := hplay
    have HBB3 : Hid _ := hbb3
    clear hplay hC2 hW2 hb23 hbb3 hb3
    generalize metS ((ringL s.data.toList).countP lT) (wantOf (ringL s.data.toList)) (endS ((ringL s.data.toList).countP lT) (playS (codeOf (ringL s.data.toList)) 1 script)) = met at *
    generalize shown (ringL s.data.toList) = yes at *
    go_wp2_with (first | (go_at_call 11; refine (num_any _ _).mono ?_; rintro r w4 ⟨rfl, rfl⟩) | fail)
    refine Calls.mono HPL.out ?_
    rintro r w4 ⟨v4, rfl, _, hb4⟩
    have HB4 : Hid (Below w.heap.size w w4) := HBB3.out.trans (hb4.mono HBB3.out.size)
    clear hb4
    have HYM : Hid ((yes || !met) = true) := by
      show _ = _
      cases met
      · simp
      · rw [HFB.out rfl]; rfl
    cases hy : yes
    · have hmf : met = false := by have := HYM.out; rw [hy] at this; simpa using this
      rw [hmf]
      go_wp2
      go_ret
      exact ⟨rfl, HB4.out⟩
    · go_wp2
      go_ret
      exact ⟨rfl, HB4.out⟩
  · have h0i : (((rd s.data.toList).1 : Int) == 0) = false := by rw [beq_eq_false_iff_ne]; omega
    have hv := hno h0
    subst hv
    clear hyes hno h0
    go_wp2
    go_ret
    exact ⟨rfl, hb1⟩

end Go.Proofs.YtokfiflflcfidabDoor
