import Derived.Test.YtokfiflflcfidabDoorRows
import Derived.Test.YtokfiflflcfidabDoorLawF
import Derived.Test.YtokfiflflcfidabDoorQtoR
import Derived.Test.YtokfiflflcfidabDoorNvM
import Derived.WalkKit
import Derived.WalkSpells
import Derived.WalkLawsBesides
namespace Go.Proofs.YtokfiflflcfidabDoor
open Go.RowKit

set_option maxRecDepth 100000 in
set_option maxHeartbeats 1600000 in
theorem never_any (s : ByteArray) (hs : s.size ≤ 9223372036854775807) (sv : Value) (script : List Int) (w : World) (hSc : ScrRd w sv script) (hlen : script.length ≤ 9223372036854775807) (hT : TabN w) (hTR : TabR w) :
    Calls Tryd.prog 4 #[.string s, sv] w fun r w' => r = .returned (.bool true) ∧ Below w.heap.size w w' := by
  have HSC : Hid _ := hSc
  obtain ⟨sa, sc, rfl, hsc⟩ := hSc
  clear hsc
  go_enter Tryd.func4, Tryd.ntmps4
  go_wp2_with fail
  refine (read_any s hs _ hTR).mono ?_
  rintro r w1 ⟨v, rfl, hyes, hno, hb1⟩
  by_cases h0 : (rd s.data.toList).1 = 0
  · obtain ⟨g, go, gc, rfl, hgl, hG⟩ := hyes h0
    obtain ⟨hR, hlast, h16, hbl, hrl, hE, hpos⟩ := rd_ring h0
    have hbd := built_any s hs g go gc w1 hG h0 (hT.kept hb1) (hTR.kept hb1)
    have hbe : (baseL s.data.toList).length = (edgesOf s.data.toList).length := hbl
    rw [hbe] at hbd
    have HBD : Hid _ := hbd
    have hS := ring_sndC _ hR h16 hlast
    have hW := ring_sndW _ hR h16 hlast
    have hC16 : (ringL s.data.toList).countP lC ≤ 16 := Nat.le_trans List.countP_le_length h16
    have HNV : Hid _ := never_core _ hR h16 hlast hC16 hS script
    have HS : Hid _ := hS
    have HW : Hid _ := hW
    have HCL : Hid _ := codeOf_length (ringL s.data.toList)
    rw [h0]
    clear hyes hno hbd hR hlast h16 hbl hrl hE hbe hgl h0 hS hW hC16 hpos
    go_wp2_with fail
    refine Calls.mono HBD.out ?_
    rintro r w2 ⟨nv, ca, cn, cc, wa, wn, wc, g2, c2, rfl, hC, hWt, hEA, hg2, hb2⟩
    have hbb : Below w.heap.size w w2 := hb1.trans (hb2.mono hb1.size)
    have hbt : Below w2.heap.size w2 (w2.alloc (.cells #[.string nv, .slice ca cn cc, .slice wa wn wc] 33)) := (Below.refl _ _).alloc (Nat.le_refl _) _
    have hC2 := codes_of (Rd44.span hC (Span.of_below hbt (Nat.le_refl _))) hbt.size HS.out
    have hW2 := want_of (Rd4.span hWt (Span.of_below hbt (Nat.le_refl _))) hbt.size
    have hbb2 : Below w.heap.size w (w2.alloc (.cells #[.string nv, .slice ca cn cc, .slice wa wn wc] 33)) := hbb.trans (hbt.mono hbb.size)
    have hplay := play_any (codeOf (ringL s.data.toList)) (wantOf (ringL s.data.toList)) script 0 nv (.slice ca cn cc) (.slice wa wn wc) (.slice sa script.length sc) _ hC2 HS.out (Or.inl rfl) hW2 HW.out (ScrRd.kept HSC.out hbb2) hlen
    rw [HCL.out, HNV.out] at hplay
    have HPL : Hid _ := hplay
    have HBB2 : Hid _ := hbb2
    clear hplay hC2 hW2 hbt hC hWt hEA hbb2 hbb hb2
    go_wp2_with fail
    refine Calls.mono HPL.out ?_
    rintro r w3 ⟨v3, rfl, _, hb3⟩
    have HB3 : Hid (Below w.heap.size w w3) := HBB2.out.trans (hb3.mono HBB2.out.size)
    clear hb3
    go_wp2
    go_ret
    exact ⟨rfl, HB3.out⟩
  · have h0i : (((rd s.data.toList).1 : Int) == 0) = false := by rw [beq_eq_false_iff_ne]; omega
    have hv := hno h0
    subst hv
    clear hyes hno h0
    go_wp2
    go_ret
    exact ⟨rfl, hb1⟩

end Go.Proofs.YtokfiflflcfidabDoor
