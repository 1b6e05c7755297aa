import Derived.Test.YtokfiflflcfidabDoorRows
import Derived.Test.YtokfiflflcfidabDoorLblW
import Derived.Test.YtokfiflflcfidabDoorRefC
import Derived.WalkKit
import Derived.WalkSpells
import Derived.WalkLawsBesides
namespace Go.Proofs.YtokfiflflcfidabDoor
open Go.RowKit

set_option maxRecDepth 100000 in
set_option maxHeartbeats 400000 in
theorem labels_any (s : ByteArray) (hs : s.size ≤ 9223372036854775807) (m : Int) (w : World) (hT : TabN w) (hR : TabR w) :
    Calls Tryd.prog 3 #[.string s, .int .i64 m] w fun r w' => r = .returned (.bool true) ∧ Below w.heap.size w w' := by
  go_enter Tryd.func3, Tryd.ntmps3
  go_wp2_with fail
  refine (label_any s hs m _ hT).mono ?_
  rintro r w1 ⟨rfl, hb1⟩
  go_wp2_with fail
  refine (read_any s hs _ (hR.kept hb1)).mono ?_
  rintro r w2 ⟨v, rfl, hyes, hno, hb2⟩
  have hbb := hb1.trans (hb2.mono hb1.size)
  have HBB : Hid _ := hbb
  clear hb1 hb2 hbb
  have hp : lbP s.data.toList = (rd s.data.toList).2 := rfl
  by_cases h0 : (rd s.data.toList).1 = 0
  · obtain ⟨g, go, gc, rfl, hgl, hG⟩ := hyes h0
    have hz := (rd_zero h0).1
    by_cases hm0 : m = 0
    · subst hm0
      have hlb := lb_zero h0
      rw [hlb.1, hlb.2, hp, h0, hz]
      clear hlb hp hyes hno hz
      go_wp2_with (go_at_call 11; refine (num_any _ _).mono ?_; rintro r w3 ⟨rfl, rfl⟩)
      go_ret
      exact ⟨rfl, HBB.out⟩
    · by_cases hm1 : m = 1
      · subst hm1
        have hlb := lb_one h0
        rw [hlb.1, hlb.2, hp, h0, hz]
        clear hlb hp hyes hno hz hm0
        generalize shown (ringL s.data.toList) = yes
        go_wp2_with (go_at_call 11; refine (num_any _ _).mono ?_; rintro r w3 ⟨rfl, rfl⟩)
        go_ret
        exact ⟨rfl, HBB.out⟩
      · have hlb := lb_model h0 hm0 hm1
        have hm0N : (m != 0) = true := by rw [bne_iff_ne]; exact hm0
        have hm1N : (m != 1) = true := by rw [bne_iff_ne]; exact hm1
        rw [hlb.1, hlb.2, hp, h0, hz]
        clear hlb hp hyes hno hz hm0 hm1
        go_wp2_with (go_at_call 11; refine (num_any _ _).mono ?_; rintro r w3 ⟨rfl, rfl⟩)
        go_ret
        exact ⟨rfl, HBB.out⟩
  · have hlb := lb_no (s := s.data.toList) m h0
    have hv := hno h0
    subst hv
    have h0i : (((rd s.data.toList).1 : Int) == 0) = false := by rw [beq_eq_false_iff_ne]; omega
    rw [hlb.1, hlb.2, hp]
    clear hlb hp hyes hno h0
    generalize (rd s.data.toList).1 = e at *
    generalize (rd s.data.toList).2 = p at *
    go_wp2_with (go_at_call 11; refine (num_any _ _).mono ?_; rintro r w3 ⟨rfl, rfl⟩)
    go_ret
    exact ⟨by simp, HBB.out⟩

end Go.Proofs.YtokfiflflcfidabDoor
