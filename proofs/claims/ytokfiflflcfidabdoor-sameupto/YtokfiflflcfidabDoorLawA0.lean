import Derived.Test.YtokfiflflcfidabDoorRows
import Derived.Test.YtokfiflflcfidabDoorPlain
import Derived.Test.YtokfiflflcfidabDoorParse
import Derived.Test.YtokfiflflcfidabDoorMem
import Derived.Test.YtokfiflflcfidabDoorPreds
import Derived.Test.YtokfiflflcfidabDoorRefA
import Derived.Test.YtokfiflflcfidabDoorProgA
import Derived.Test.YtokfiflflcfidabDoorParseW
import Derived.Test.YtokfiflflcfidabDoorRefC
import Derived.Test.YtokfiflflcfidabDoorCells
import Derived.WalkKit
import Derived.WalkSpells
import Derived.WalkLawsBesides
namespace Go.Proofs.YtokfiflflcfidabDoor
open Go.RowKit

theorem chk_zero {l : List Nat} (h : (chk l).1 = 0) : (chk l).2 = 0 := by
  unfold chk at h ⊢
  by_cases h1 : unj l < l.length
  · rw [if_pos h1] at h; cases h
  · rw [if_neg h1] at h ⊢
    by_cases h2 : l.countP lT < 2
    · rw [if_pos h2] at h; cases h
    · rw [if_neg h2] at h ⊢
      by_cases h3 : l.countP lC < 2
      · rw [if_pos h3] at h; cases h
      · rw [if_neg h3] at h ⊢
        by_cases h4 : 2 < mcw l
        · rw [if_pos h4] at h; cases h
        · rw [if_neg h4]

set_option maxRecDepth 100000 in
set_option maxHeartbeats 800000 in
theorem readCycle_any (s : ByteArray) (hs : s.size ≤ 9223372036854775807) (w : World) (hT : TabN w) :
    Calls Tryd.prog 24 #[.string s] w fun r w' => ∃ v, r = .returned (.tuple #[v, .int .i64 ((rd s.data.toList).1 : Nat), .int .i64 ((rd s.data.toList).2 : Nat)]) ∧
      ((rd s.data.toList).1 = 0 → Own w' w.heap.size 108 v (edgesOf s.data.toList) ∧ isE s.data.toList = true) ∧ ((rd s.data.toList).1 ≠ 0 → v = .slice none 0 0) ∧ Below w.heap.size w w' := by
  have hsd := size_data s
  by_cases hlong : 63 < s.size
  · have HR : Hid _ := rd_long (s := s.data.toList) (by omega)
    go_enter Tryd.func24, Tryd.ntmps24
    go_wp2
    go_ret3
    refine ⟨.slice none 0 0, by rw [HR.out]; rfl, fun h => ?_, fun _ => rfl, Below.refl _ _⟩
    rw [HR.out] at h; cases h
  · go_enter Tryd.func24, Tryd.ntmps24
    go_wp2_with fail
    refine (readEdges_any s (by omega) _ hT).mono ?_
    rintro r w1 ⟨v, rfl, hyes, hno, hb1⟩
    cases hE : isE s.data.toList
    · have HR : Hid _ := rd_not (s := s.data.toList) (by omega) hE
      have hv := hno hE
      subst hv
      have HE2 : Hid (rdE s.data.toList = 2) := by show _ = _; unfold rdE; rw [hE]; rfl
      rw [HE2.out]
      clear hyes hno hE
      go_wp2
      go_ret3
      refine ⟨.slice none 0 0, by rw [HR.out]; rfl, fun h => ?_, fun _ => rfl, hb1⟩
      rw [HR.out] at h; cases h
    · have hlen := edgesOf_length hE
      have hl := hlen.1
      have hl2 : (edgesOf s.data.toList).length ≤ 16 := by omega
      have hEl := edgesOf_lt hE
      have HR : Hid (rd s.data.toList = chk (edgesOf s.data.toList)) := (rd_is (s := s.data.toList) (by omega) hE).trans (chk_eq _ hl)
      have hown := hyes hE
      have HE2 : Hid (rdE s.data.toList = 0) := by show _ = _; unfold rdE; rw [hE]; rfl
      rw [HE2.out]
      have HEE : Hid _ := hE
      clear hyes hno hE hlen
      obtain ⟨l, hL⟩ : ∃ l, edgesOf s.data.toList = l := ⟨_, rfl⟩
      rw [hL] at HR hl hl2 hEl hown
      have HL : Hid _ := hL
      clear hL
      have hown2 := hown
      obtain ⟨g1, c1, hv1, hg1, hG1⟩ := hown.shape hl
      subst hv1
      clear hown
      go_wp2_with fail
      refine (checkEdges_any l g1 0 c1 _ hG1 hEl hl (by omega)).mono ?_
      rintro r w2 ⟨rfl, hb2⟩
      have hbb := hb1.trans (hb2.mono hb1.size)
      have hown3 := hown2.kept hb2
      clear hown2
      by_cases h0 : (chk l).1 = 0
      · have h02 : (chk l).2 = 0 := chk_zero h0
        rw [h0]
        have H0 : Hid _ := h0
        have H02 : Hid _ := h02
        clear h0 h02
        go_wp2
        go_ret3
        refine ⟨_, by rw [HR.out, H0.out, H02.out]; rfl, fun _ => ⟨by rw [HL.out]; exact hown3, HEE.out⟩, fun h => ?_, hbb⟩
        rw [HR.out, H0.out] at h; exact absurd rfl h
      · have h0i : (((chk l).1 : Int) == 0) = false := by rw [beq_eq_false_iff_ne]; omega
        have H0 : Hid _ := h0
        clear h0
        go_wp2
        go_ret3
        refine ⟨.slice none 0 0, by rw [HR.out]; rfl, fun h => ?_, fun _ => rfl, hbb⟩
        rw [HR.out] at h; exact absurd h H0.out

end Go.Proofs.YtokfiflflcfidabDoor
