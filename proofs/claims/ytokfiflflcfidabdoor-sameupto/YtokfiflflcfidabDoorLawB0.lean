import Derived.Test.YtokfiflflcfidabDoorRows
import Derived.Test.YtokfiflflcfidabDoorPlain
import Derived.Test.YtokfiflflcfidabDoorParse
import Derived.Test.YtokfiflflcfidabDoorMem
import Derived.Test.YtokfiflflcfidabDoorPreds
import Derived.Test.YtokfiflflcfidabDoorRefA
import Derived.Test.YtokfiflflcfidabDoorProgA
import Derived.Test.YtokfiflflcfidabDoorParseW
import Derived.Test.YtokfiflflcfidabDoorRefC
import Derived.Test.YtokfiflflcfidabDoorCells
import Derived.Test.YtokfiflflcfidabDoorLawA0
import Derived.Test.YtokfiflflcfidabDoorText
import Derived.Test.YtokfiflflcfidabDoorSpell
import Derived.WalkKit
import Derived.WalkSpells
import Derived.WalkLawsBesides
namespace Go.Proofs.YtokfiflflcfidabDoor
open Go.RowKit

/-- the base's text, or none -/
def bsL (s : List UInt8) : List UInt8 := if (rd s).1 = 0 then tx (leastOf (edgesOf s)) else []
def bs (s : List UInt8) : ByteArray := ⟨(bsL s).toArray⟩
theorem bs_ok {s : List UInt8} (h : (rd s).1 = 0) : bs s = ⟨(tx (leastOf (edgesOf s))).toArray⟩ := by unfold bs bsL; rw [if_pos h]
theorem bs_no {s : List UInt8} (h : (rd s).1 ≠ 0) : bs s = ⟨#[]⟩ := by unfold bs bsL; rw [if_neg h]

theorem rd_zero {s : List UInt8} (h : (rd s).1 = 0) : (rd s).2 = 0 ∧ isE s = true ∧ s.length ≤ 63 ∧ rchk (edgesOf s) = (0, 0) := by
  by_cases hl : 63 < s.length
  · rw [rd_long hl] at h; cases h
  · cases hE : isE s
    · rw [rd_not hl hE] at h; cases h
    · have hr := rd_is hl hE
      have hch := chk_eq (edgesOf s) (edgesOf_length hE).1
      rw [hr, hch] at h
      have h2 := chk_zero h
      refine ⟨by rw [hr, hch]; exact h2, rfl, by omega, ?_⟩
      rw [hch]
      exact Prod.ext h h2

set_option maxRecDepth 100000 in
set_option maxHeartbeats 400000 in
theorem base_any (s : ByteArray) (hs : s.size ≤ 9223372036854775807) (w : World) (hT : TabN w) :
    Calls Tryd.prog 17 #[.string s] w fun r w' => r = .returned (.tuple #[.string (bs s.data.toList), .int .i64 ((rd s.data.toList).1 : Nat), .int .i64 ((rd s.data.toList).2 : Nat)]) ∧ Below w.heap.size w w' := by
  go_enter Tryd.func17, Tryd.ntmps17
  go_wp2_with fail
  refine (readCycle_any s hs _ hT).mono ?_
  rintro r w1 ⟨v, rfl, hyes, hno, hb1⟩
  by_cases h0 : (rd s.data.toList).1 = 0
  · obtain ⟨hown, hE⟩ := hyes h0
    have HB : Hid _ := bs_ok h0
    have hz := rd_zero h0
    have HZ : Hid _ := hz
    have hlen := edgesOf_length hE
    have hl := hlen.1
    have hl2 : (edgesOf s.data.toList).length ≤ 16 := by have := hz.2.2.1; omega
    have hEl := edgesOf_lt hE
    obtain ⟨g1, c1, hv1, hg1, hG1⟩ := hown.shape hl
    subst hv1
    have H0 : Hid _ := h0
    rw [h0]
    clear hyes hno hE hz hlen hown h0
    go_wp2_with fail
    refine (leastRotation_any (edgesOf s.data.toList) g1 0 c1 _ hG1 hl (by omega)).mono ?_
    rintro r w2 ⟨v2, rfl, hown2, hb2⟩
    have hll : (leastOf (edgesOf s.data.toList)).length = (edgesOf s.data.toList).length := leastTo_length _ _
    obtain ⟨g2, c2, hv2, hg2, hG2⟩ := hown2.shape (by rw [hll]; exact hl)
    rw [hll] at hv2
    subst hv2
    have hbb := hb1.trans (hb2.mono hb1.size)
    have hsp := spell_any (leastOf (edgesOf s.data.toList)) g2 0 c2 w2 hG2 (fun x hx => hEl x (mem_leastTo _ _ x hx)) (by rw [hll]; exact hl) (by rw [hll]; omega) (hT.kept hbb)
    rw [hll] at hsp
    clear hll
    go_wp2_with fail
    refine hsp.mono ?_
    rintro r w3 ⟨rfl, hb3⟩
    go_wp2
    go_ret3
    exact ⟨by rw [HB.out, H0.out, HZ.out.1]; rfl, hbb.trans (hb3.mono hbb.size)⟩
  · have HB : Hid _ := bs_no h0
    have hv := hno h0
    subst hv
    have h0i : (((rd s.data.toList).1 : Int) == 0) = false := by rw [beq_eq_false_iff_ne]; omega
    clear hyes hno h0
    go_wp2
    go_ret3
    exact ⟨by rw [HB.out]; rfl, hb1⟩

end Go.Proofs.YtokfiflflcfidabDoor
