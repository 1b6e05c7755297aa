import Derived.Test.YtokfiflflcfidaaDoorRows
import Derived.Test.YtokfiflflcfidaaDoorPlain
import Derived.Test.YtokfiflflcfidaaDoorParse
import Derived.Test.YtokfiflflcfidaaDoorMem
import Derived.Test.YtokfiflflcfidaaDoorPreds
import Derived.Test.YtokfiflflcfidaaDoorProgA
import Derived.Test.YtokfiflflcfidaaDoorParseW
import Derived.Test.YtokfiflflcfidaaDoorRefC
import Derived.Test.YtokfiflflcfidaaDoorCells
import Derived.Test.YtokfiflflcfidaaDoorLawA
import Derived.Test.YtokfiflflcfidaaDoorText
import Derived.Test.YtokfiflflcfidaaDoorSpell
import Derived.Test.YtokfiflflcfidaaDoorLawB
import Derived.Test.YtokfiflflcfidaaDoorRot
import Derived.Test.YtokfiflflcfidaaDoorTx
import Derived.WalkKit
import Derived.WalkSpells
import Derived.WalkLawsBesides
namespace Go.Proofs.YtokfiflflcfidaaDoor
open Go.RowKit

/-- the text PWR Fre FWR Fre -/
def oneS : ByteArray := ⟨(tx [10, 6, 4, 6]).toArray⟩
/-- the text FWR Fre PWR Fre -/
def oneB : ByteArray := ⟨(tx [4, 6, 10, 6]).toArray⟩
theorem one_rd : rd oneS.data.toList = (0, 0) := by
  show rd (tx [10, 6, 4, 6]) = (0, 0)
  rw [rd_tx _ (by decide) (by decide) (by decide)]
  decide
theorem one_bs : bs oneS.data.toList = oneB := by
  unfold bs oneB
  have : bsL oneS.data.toList = tx [4, 6, 10, 6] := by
    show bsL (tx [10, 6, 4, 6]) = _
    rw [bs_tx _ (by decide) (by decide) (by decide) (by decide)]
    have : leastOf [10, 6, 4, 6] = [4, 6, 10, 6] := by decide
    rw [this]
  rw [this]
theorem one_size : oneS.size ≤ 9223372036854775807 := by decide
theorem one_list : (oneB.toList == [70, 87, 82, 32, 70, 114, 101, 32, 80, 87, 82, 32, 70, 114, 101]) = true := by
  rw [ByteArray.toList_eq]
  decide
theorem bs_data (s : List UInt8) : (bs s).data.toList = bsL s := by simp [bs]

set_option maxRecDepth 100000 in
set_option maxHeartbeats 400000 in
theorem itself_any (s : ByteArray) (hs : s.size ≤ 9223372036854775807) (w : World) (hT : TabN w) :
    Calls Tryd.prog 5 #[.string s] w fun r w' => r = .returned (.bool true) ∧ Below w.heap.size w w' := by
  have hob := one_list
  have hone := base_any oneS one_size w hT
  rw [one_rd, one_bs] at hone
  go_enter Tryd.func5, Tryd.ntmps5
  go_wp2_with fail
  refine hone.mono ?_
  rintro r w1 ⟨rfl, hb1⟩
  clear hone
  go_wp2_with (go_at_call 13; refine (num_any _ _).mono ?_; rintro r w3 ⟨rfl, rfl⟩)
  refine (base_any s hs _ (hT.kept hb1)).mono ?_
  rintro r w4 ⟨rfl, hb4⟩
  have hbb := hb1.trans (hb4.mono hb1.size)
  clear hb1 hb4
  by_cases h0 : (rd s.data.toList).1 = 0
  · have hz := bs_bs h0
    have hz2 := rd_zero h0
    have hsz : (bs s.data.toList).size = s.size := by rw [← size_data, bs_data, hz.2.2.1, size_data]
    have hge : 15 ≤ (bs s.data.toList).size := by rw [← size_data, bs_data]; exact hz.2.2.2
    have hr2 : rd (bs s.data.toList).data.toList = (0, 0) := by rw [bs_data]; exact hz.1
    have hb2 : bs (bs s.data.toList).data.toList = bs s.data.toList := by
      show (⟨(bsL (bs s.data.toList).data.toList).toArray⟩ : ByteArray) = ⟨(bsL s.data.toList).toArray⟩
      rw [bs_data, hz.2.1]
    rw [h0, hz2.1]
    clear hz hz2 h0
    generalize bs s.data.toList = b at *
    have hbs := base_any b (by omega) w4 (hT.kept hbb)
    rw [hr2, hb2] at hbs
    have hck := fun w9 h9 => check_any b (by omega) w9 h9
    rw [hr2] at hck
    have HCK : Hid _ := hck
    have HSZ : Hid _ := hsz
    have hszi : ((b.size : Int) == (s.size : Int)) = true := by rw [beq_iff_eq]; omega
    have hgei : (15 : Int) ≤ (b.size : Int) := by omega
    clear hck hsz hr2 hb2
    go_wp2_with (go_at_call 13; refine (num_any _ _).mono ?_; rintro r w3 ⟨rfl, rfl⟩)
    refine hbs.mono ?_
    rintro r w5 ⟨rfl, hb5⟩
    have hbb5 := hbb.trans (hb5.mono hbb.size)
    clear hbs hb5
    go_wp2_with fail
    refine (HCK.out _ (hT.kept hbb5)).mono ?_
    rintro r w6 ⟨rfl, hb6⟩
    have hbb6 := hbb5.trans (hb6.mono hbb5.size)
    clear hb6 hbb5 hbb
    go_wp2_with (go_at_call 13; refine (num_any _ _).mono ?_; rintro r w3 ⟨rfl, rfl⟩)
    go_ret
    exact ⟨by simp, hbb6⟩
  · have HB : Hid _ := bs_no h0
    have h0i : (((rd s.data.toList).1 : Int) == 0) = false := by rw [beq_eq_false_iff_ne]; omega
    rw [HB.out]
    clear h0
    go_wp2_with (go_at_call 13; refine (num_any _ _).mono ?_; rintro r w3 ⟨rfl, rfl⟩)
    refine (check_any s hs _ (hT.kept hbb)).mono ?_
    rintro r w5 ⟨rfl, hb5⟩
    have hbb5 := hbb.trans (hb5.mono hbb.size)
    clear hb5 hbb
    go_wp2_with (go_at_call 13; refine (num_any _ _).mono ?_; rintro r w3 ⟨rfl, rfl⟩)
    go_ret
    exact ⟨by simp, hbb5⟩

end Go.Proofs.YtokfiflflcfidaaDoor
