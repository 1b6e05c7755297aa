import Derived.Test.YtokfiflflcfidaaDoorRows
import Derived.Test.YtokfiflflcfidaaDoorPlain
import Derived.Test.YtokfiflflcfidaaDoorParse
import Derived.Test.YtokfiflflcfidaaDoorMem
import Derived.Test.YtokfiflflcfidaaDoorPreds
import Derived.Test.YtokfiflflcfidaaDoorRefA
import Derived.Test.YtokfiflflcfidaaDoorProgA
import Derived.Test.YtokfiflflcfidaaDoorParseW
import Derived.Test.YtokfiflflcfidaaDoorRefC
import Derived.Test.YtokfiflflcfidaaDoorCells
import Derived.Test.YtokfiflflcfidaaDoorLawA
import Derived.Test.YtokfiflflcfidaaDoorText
import Derived.Test.YtokfiflflcfidaaDoorSpell
import Derived.Test.YtokfiflflcfidaaDoorLawB0
import Derived.WalkKit
import Derived.WalkSpells
import Derived.WalkLawsBesides
namespace Go.Proofs.YtokfiflflcfidaaDoor
open Go.RowKit

set_option maxRecDepth 100000 in
set_option maxHeartbeats 400000 in
theorem bases_any (s : ByteArray) (hs : s.size ≤ 9223372036854775807) (w : World) (hT : TabN w) (hR : TabR w) :
    Calls Tryd.prog 4 #[.string s] w fun r w' => r = .returned (.bool true) ∧ Below w.heap.size w w' := by
  go_enter Tryd.func4, Tryd.ntmps4
  go_wp2_with fail
  refine (base_any s hs _ hT).mono ?_
  rintro r w1 ⟨rfl, hb1⟩
  go_wp2_with fail
  refine (read_any s hs _ (hR.kept hb1)).mono ?_
  rintro r w2 ⟨v, rfl, hyes, hno, hb2⟩
  have hbb := hb1.trans (hb2.mono hb1.size)
  by_cases h0 : (rd s.data.toList).1 = 0
  · have hz := rd_zero h0
    have hrow := hyes h0
    have HB : Hid _ := bs_ok h0
    have hEl := edgesOf_lt hz.2.1
    have hlen := edgesOf_length hz.2.1
    have hl2 : (edgesOf s.data.toList).length ≤ 16 := by have := hz.2.2.1; omega
    obtain ⟨g, go, gc, rfl, hgl, hG⟩ := hrow
    have htx := text_any (leastOf (edgesOf s.data.toList)) g go gc w2 hG (fun x hx => hEl x (mem_leastTo _ _ x hx)) (by rw [hgl]; omega) (hR.kept hbb)
    rw [hgl] at htx
    rw [h0, HB.out]
    have HG : Hid _ := hgl
    clear hyes hno hz hlen h0 hgl
    go_wp2_with (first | (go_at_call 13; refine (num_any _ _).mono ?_; rintro r w3 ⟨rfl, rfl⟩) | (go_at_call 15; refine htx.mono ?_; rintro r w3 ⟨rfl, rfl⟩))
    go_ret
    exact ⟨by simp, hbb⟩
  · have HB : Hid _ := bs_no h0
    have h0i : (((rd s.data.toList).1 : Int) == 0) = false := by rw [beq_eq_false_iff_ne]; omega
    rw [HB.out]
    clear hyes hno h0
    go_wp2_with (go_at_call 13; refine (num_any _ _).mono ?_; rintro r w3 ⟨rfl, rfl⟩)
    go_ret
    exact ⟨by simp, hbb⟩

end Go.Proofs.YtokfiflflcfidaaDoor
