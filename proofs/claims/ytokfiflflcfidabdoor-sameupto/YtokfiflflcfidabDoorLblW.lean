import Derived.Test.YtokfiflflcfidabDoorRows
import Derived.Test.YtokfiflflcfidabDoorHapZ
import Derived.Test.YtokfiflflcfidabDoorBldU
import Derived.Test.YtokfiflflcfidabDoorFrmM
import Derived.WalkKit
import Derived.WalkSpells
import Derived.WalkLawsBesides
namespace Go.Proofs.YtokfiflflcfidabDoor
open Go.RowKit

/-- what Label answers: yes, the error and its place -/
def lbY (s : List UInt8) (m : Int) : Bool := decide ((rd s).1 = 0) && (decide (m = 1) && shown (ringL s))
def lbE (s : List UInt8) (m : Int) : Nat := if (rd s).1 = 0 then (if m = 0 ∨ m = 1 then 0 else 7) else (rd s).1
def lbP (s : List UInt8) : Nat := (rd s).2
theorem lb_no {s : List UInt8} (m : Int) (h : (rd s).1 ≠ 0) : lbY s m = false ∧ lbE s m = (rd s).1 := by
  unfold lbY lbE
  rw [decide_eq_false h, if_neg h]
  exact ⟨rfl, rfl⟩
theorem lb_model {s : List UInt8} {m : Int} (h : (rd s).1 = 0) (h0 : m ≠ 0) (h1 : m ≠ 1) : lbY s m = false ∧ lbE s m = 7 := by
  unfold lbY lbE
  rw [decide_eq_false h1, if_pos h, if_neg (by omega)]
  simp
theorem lb_zero {s : List UInt8} (h : (rd s).1 = 0) : lbY s 0 = false ∧ lbE s 0 = 0 := by
  unfold lbY lbE
  rw [if_pos h, if_pos (Or.inl rfl)]
  simp
theorem lb_one {s : List UInt8} (h : (rd s).1 = 0) : lbY s 1 = shown (ringL s) ∧ lbE s 1 = 0 := by
  unfold lbY lbE
  rw [if_pos h, if_pos (Or.inr rfl), h]
  simp

set_option maxRecDepth 100000 in
set_option maxHeartbeats 800000 in
theorem label_any (s : ByteArray) (hs : s.size ≤ 9223372036854775807) (m : Int) (w : World) (hT : TabN w) :
    Calls Tryd.prog 9 #[.string s, .int .i64 m] w fun r w' => r = .returned (.tuple #[.bool (lbY s.data.toList m), .int .i64 (lbE s.data.toList m : Nat), .int .i64 (lbP s.data.toList : Nat)]) ∧ Below w.heap.size w w' := by
  go_enter Tryd.func9, Tryd.ntmps9
  go_wp2_with fail
  refine (readCycle_any s hs _ hT).mono ?_
  rintro r w1 ⟨v, rfl, hyes, hno, hb1⟩
  have HP : Hid (lbP s.data.toList = (rd s.data.toList).2) := rfl
  by_cases h0 : (rd s.data.toList).1 = 0
  · obtain ⟨hown, _⟩ := hyes h0
    have hrr := rd_ring h0
    have hz := rd_zero h0
    have HZ : Hid _ := hz
    have HR : Hid _ := hrr
    have hl := hrr.2.2.2.2.2.2
    have hl2 : (edgesOf s.data.toList).length ≤ 16 := by have h1 := hrr.2.2.1; have h2 := hrr.2.2.2.2.1; omega
    obtain ⟨g1, c1, hv1, hg1, hG1⟩ := hown.shape hl
    subst hv1
    have H0 : Hid _ := h0
    have HB1 : Hid _ := hb1
    have HP2 : Hid (lbP s.data.toList = 0) := hz.1
    rw [h0]
    clear hyes hno hown h0 hrr hz hb1
    by_cases hm0 : m = 0
    · subst hm0
      have HLB : Hid _ := lb_zero H0.out
      go_wp2
      go_ret3
      exact ⟨by rw [HLB.out.1, HLB.out.2, HP2.out]; rfl, HB1.out⟩
    · by_cases hm1 : m = 1
      · subst hm1
        have HLB : Hid _ := lb_one H0.out
        clear hm0
        go_wp2_with fail
        refine (leastRotation_any (edgesOf s.data.toList) g1 0 c1 _ hG1 hl (by omega)).mono ?_
        rintro r w2 ⟨v2, rfl, hown2, hb2⟩
        have hll : (leastOf (edgesOf s.data.toList)).length = (edgesOf s.data.toList).length := leastTo_length _ _
        obtain ⟨g2, c2, hv2, hg2, hG2⟩ := hown2.shape (by rw [hll]; exact hl)
        have HB2 : Hid (Below w.heap.size w w2) := HB1.out.trans (hb2.mono HB1.out.size)
        have hC0 : 0 < (leastOf (edgesOf s.data.toList)).countP lC := by
          rw [← ring_count lC _ (by rw [hll]; exact hl)]; exact HR.out.1.toLay.some
        have hce := cycleEvents_any (leastOf (edgesOf s.data.toList)) g2 0 c2 w2 hG2 HR.out.2.2.2.2.2.1 (by rw [hll]; exact hl) (by rw [hll]; omega) hC0
        rw [hll] at hce hv2
        subst hv2
        have HCE : Hid _ := hce
        clear hce hown2 hb2 hC0 hll
        go_wp2_with fail
        refine Calls.mono HCE.out ?_
        rintro r w3 ⟨v3, rfl, hown3, hb3⟩
        have hrl : (ringL s.data.toList).length = (edgesOf s.data.toList).length := HR.out.2.2.2.2.1
        have hown3' : Own5 w3 w2.heap.size 110 v3 (ringL s.data.toList) (ringL s.data.toList).length := by
          have e1 : (leastOf (edgesOf s.data.toList)).length = (edgesOf s.data.toList).length := leastTo_length _ _
          rw [hrl]
          have : ringL s.data.toList = turn (leastOf (edgesOf s.data.toList)) (outTo (leastOf (edgesOf s.data.toList)) (edgesOf s.data.toList).length % (edgesOf s.data.toList).length) := by
            show ringOf (leastOf (edgesOf s.data.toList)) = _
            unfold ringOf
            rw [e1]
          rw [this]
          exact hown3
        obtain ⟨g3, c3, hv3, hg3, hP3⟩ := Own5.shape hown3' (by rw [hrl]; exact hl)
        subst hv3
        have HB3 : Hid (Below w.heap.size w w3) := HB2.out.trans (hb3.mono HB2.out.size)
        have hl16 : (ringL s.data.toList).length ≤ 64 := by omega
        have HHP : Hid _ := happenings_any (ringL s.data.toList) g3 c3 w3 hP3 HR.out.1.small hl16
        clear hown3 hown3' hb3 hrl hP3
        go_wp2_with fail
        refine Calls.mono HHP.out ?_
        rintro r w4 ⟨v4, rfl, hy4, hn4, hb4⟩
        have HB4 : Hid (Below w.heap.size w w4) := HB3.out.trans (hb4.mono HB3.out.size)
        clear hy4 hn4 hb4
        go_wp2
        go_ret3
        exact ⟨by rw [HLB.out.1, HLB.out.2, HP2.out]; rfl, HB4.out⟩
      · have HLB : Hid _ := lb_model H0.out hm0 hm1
        have hm0I : (m == 0) = false := by rw [beq_eq_false_iff_ne]; exact hm0
        have hm1I : (m == 1) = false := by rw [beq_eq_false_iff_ne]; exact hm1
        have hm0N : (m != 0) = true := by rw [bne_iff_ne]; exact hm0
        have hm1N : (m != 1) = true := by rw [bne_iff_ne]; exact hm1
        clear hm0 hm1
        go_wp2
        go_ret3
        exact ⟨by rw [HLB.out.1, HLB.out.2, HP2.out]; rfl, HB1.out⟩
  · have hv := hno h0
    subst hv
    have h0i : (((rd s.data.toList).1 : Int) == 0) = false := by rw [beq_eq_false_iff_ne]; omega
    have HLB : Hid _ := lb_no (s := s.data.toList) m h0
    clear hyes hno h0
    go_wp2
    go_ret3
    exact ⟨by rw [HLB.out.1, HLB.out.2, HP.out]; rfl, hb1⟩

end Go.Proofs.YtokfiflflcfidabDoor
