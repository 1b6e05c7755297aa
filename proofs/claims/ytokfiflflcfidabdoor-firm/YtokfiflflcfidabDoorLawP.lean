import Derived.Test.YtokfiflflcfidabDoorRows
import Derived.Test.YtokfiflflcfidabDoorFrmW
import Derived.Test.YtokfiflflcfidabDoorRefC
import Derived.Test.YtokfiflflcfidabDoorText
import Derived.WalkKit
import Derived.WalkSpells
import Derived.WalkLawsBesides
namespace Go.Proofs.YtokfiflflcfidabDoor
open Go.RowKit

theorem Tryd.nilNums (w : World) : Sem.run Tryd.prog (binOp BinOp.eql 25 (.slice none 0 0) (.slice none 0 0)) w = .ok (.bool true) w := by kernel_rfl

set_option maxRecDepth 100000 in
set_option maxHeartbeats 400000 in
theorem firm_any (s : ByteArray) (hs : s.size ≤ 9223372036854775807) (w : World) (hT : TabN w) (hTR : TabR w) :
    Calls Tryd.prog 7 #[.string s] w fun r w' => r = .returned (.bool true) ∧ Below w.heap.size w w' := by
  go_enter Tryd.func7, Tryd.ntmps7
  go_wp2_with fail
  refine (read_any s hs _ hTR).mono ?_
  rintro r w1 ⟨v, rfl, hyes, hno, hb1⟩
  by_cases h0 : (rd s.data.toList).1 = 0
  · obtain ⟨g, go, gc, rfl, hgl, hG⟩ := hyes h0
    obtain ⟨hR, hlast, h16, hbl, hrl, hE, hpos⟩ := rd_ring h0
    obtain ⟨hf1, hf2⟩ := firm_text h0
    have hE2 : ∀ x ∈ leastOf (edgesOf s.data.toList), x < 14 := hE
    have hfl := firmL_any (leastOf (edgesOf s.data.toList)) g go gc w1 hG hE2 (by rw [hgl]; omega)
    have hl2 : (leastOf (edgesOf s.data.toList)).length ≤ 16 := by rw [hgl]; omega
    have hl1 : 0 < ((leastOf (edgesOf s.data.toList)).map frm).length := by rw [List.length_map, hgl]; exact hpos
    rw [hgl] at hfl
    have HFL : Hid _ := hfl
    have HB1 : Hid _ := hb1
    rw [h0]
    have hEm : ∀ x ∈ (leastOf (edgesOf s.data.toList)).map frm, x < 14 := by
      intro x hx
      obtain ⟨e, he, rfl⟩ := List.mem_map.1 hx
      exact frm_lt (hE2 e he)
    have HFT : Hid (frmT s.data.toList = tx ((leastOf (edgesOf s.data.toList)).map frm)) := rfl
    have hml : ((leastOf (edgesOf s.data.toList)).map frm).length ≤ 16 := by rw [List.length_map]; exact hl2
    rw [HFT.out] at hf1 hf2
    clear hyes hno hfl hR hlast h16 hbl hrl hE hpos h0 hb1 hE2 hl2 hgl HFT
    generalize (leastOf (edgesOf s.data.toList)).map frm = l at *
    go_wp2_with fail
    refine Calls.mono HFL.out ?_
    rintro r w2 ⟨v2, rfl, hown2, hb2⟩
    obtain ⟨g2, c2, rfl, hg2, hG2⟩ := hown2.shape hl1
    have HB2 : Hid (Below w.heap.size w w2) := HB1.out.trans (hb2.mono HB1.out.size)
    clear hown2 hb2 HFL HB1
    go_wp2_with fail
    refine (text_any l g2 0 c2 _ hG2 hEm (by omega) (hTR.kept HB2.out)).mono ?_
    rintro r w3 ⟨rfl, rfl⟩
    have hdat : (⟨(tx l).toArray⟩ : ByteArray).data.toList = tx l := by simp
    have hsz : (⟨(tx l).toArray⟩ : ByteArray).size ≤ 9223372036854775807 := by
      rw [← size_data, hdat, tx_length]; omega
    have hlb := label_any ⟨(tx l).toArray⟩ hsz 1 w3 (hT.kept HB2.out)
    rw [hdat, (lb_one (s := tx l) (by rw [hf1])).1, (lb_one (s := tx l) (by rw [hf1])).2, hf2] at hlb
    have HLB : Hid _ := hlb
    have hscr := fun wq hq => script_none ⟨(tx l).toArray⟩ hsz wq hq (by rw [hdat, hf1]) (by rw [hdat]; exact hf2)
    have HSC : Hid _ := hscr
    clear hlb hscr hsz hdat hf1 hf2 hG2 hEm
    generalize (⟨(tx l).toArray⟩ : ByteArray) = tb at *
    go_wp2_with fail
    refine Calls.mono HLB.out ?_
    rintro r w4 ⟨rfl, hb4⟩
    have HB4 : Hid (Below w.heap.size w w4) := HB2.out.trans (hb4.mono HB2.out.size)
    clear hb4 HLB HB2
    go_wp2_with fail
    refine Calls.mono (HSC.out _ (hT.kept HB4.out)) ?_
    rintro r w5 ⟨rfl, hb5⟩
    have HB5 : Hid (Below w.heap.size w w5) := HB4.out.trans (hb5.mono HB4.out.size)
    clear hb5 HB4
    have hnil := Tryd.nilNums
    go_wp2_with (go_at_call 11; refine (num_any _ _).mono ?_; rintro r w6 ⟨rfl, rfl⟩)
    go_ret
    exact ⟨rfl, HB5.out⟩
  · have h0i : (((rd s.data.toList).1 : Int) == 0) = false := by rw [beq_eq_false_iff_ne]; omega
    have hv := hno h0
    subst hv
    clear hyes hno h0
    go_wp2
    go_ret
    exact ⟨rfl, hb1⟩

end Go.Proofs.YtokfiflflcfidabDoor
