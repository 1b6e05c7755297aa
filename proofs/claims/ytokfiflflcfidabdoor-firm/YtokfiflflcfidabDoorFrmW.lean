import Derived.Test.YtokfiflflcfidabDoorRows
import Derived.Test.YtokfiflflcfidabDoorFrmN
import Derived.Test.YtokfiflflcfidabDoorLblW
import Derived.WalkKit
import Derived.WalkSpells
import Derived.WalkLawsBesides
namespace Go.Proofs.YtokfiflflcfidabDoor
open Go.RowKit

set_option maxHeartbeats 400000 in
theorem fenced_any (e : Nat) (he : e < 14) (w : World) :
    Calls Tryd.prog 43 #[.int .i64 e] w fun r w' => r = .returned (.bool (fE e)) ∧ w' = w := by
  rcases cases14 he with rfl | rfl | rfl | rfl | rfl | rfl | rfl | rfl | rfl | rfl | rfl | rfl | rfl | rfl
  all_goals
    go_enter Tryd.func43, Tryd.ntmps43
    go_wp2
    go_ret
    exact ⟨rfl, rfl⟩

set_option maxHeartbeats 400000 in
theorem firmE_any (e x : Nat) (he : e < 14) (hx : e = x + 6) (w : World) :
    Calls Tryd.prog 44 #[.int .i64 e] w fun r w' => r = .returned (.int .i64 x) ∧ w' = w := by
  have HX : Hid ((e : Int) - 6 = (x : Int)) := by show _ = _; omega
  clear hx
  go_enter Tryd.func44, Tryd.ntmps44
  go_wp2
  go_ret
  exact ⟨by rw [← HX.out]; rfl, rfl⟩

theorem frm_is {e : Nat} (he : e < 14) : frm e = if lC e && !fE e then e - 6 else e := by
  rcases cases14 he with rfl | rfl | rfl | rfl | rfl | rfl | rfl | rfl | rfl | rfl | rfl | rfl | rfl | rfl <;> rfl

theorem frmTo_succ (l : List Nat) (n : Nat) (h : n < l.length) : (l.take (n + 1)).map frm = (l.take n).map frm ++ [frm (l[n]?.getD 0)] := by
  rw [take_snoc l n h, List.map_append]
  rfl

set_option maxRecDepth 100000 in
set_option maxHeartbeats 800000 in
theorem firmL_any (l : List Nat) (b off cap : Nat) (w : World) (hA : Arr w b off l) (hE : ∀ x ∈ l, x < 14) (hl2 : l.length ≤ 1000) :
    Calls Tryd.prog 15 #[.slice (some ⟨b, off, none⟩) l.length cap] w fun r w' => ∃ v, r = .returned v ∧ Own w' w.heap.size 3 v (l.map frm) ∧ Below w.heap.size w w' := by
  go_enter Tryd.func15, Tryd.ntmps15
  go_wp2
  go_loopw [3, 4] (fun v i wr => ∃ n : Nat, n ≤ l.length ∧ i = .int .i64 n ∧ Own wr w.heap.size 3 v ((l.take n).map frm) ∧ Below w.heap.size w wr) (fun _ i _ => l.length - (intOf i).toNat)
  case atStart => exact ⟨0, Nat.zero_le _, rfl, Own.nil _ _ _, Below.refl _ _⟩
  case round =>
    obtain ⟨n, hn, rfl, hown, hb⟩ := hrel
    have HB : Hid _ := hb
    have HO : Hid (Own wr w.heap.size 3 _ ((l.take n).map frm)) := hown
    have hbs := hb.size
    by_cases hlt : n < l.length
    · have hc := (hA.kept hb).at hlt
      have he := getD_lt hE n
      have HS : Hid _ := frmTo_succ l n hlt
      have hll : ((l.take n).map frm).length ≤ 1000000 := by rw [List.length_map, List.length_take]; omega
      have HF : Hid _ := frm_is he
      clear hb hown
      generalize l[n]?.getD 0 = e at *
      by_cases hp : (lC e && !fE e) = true
      · have hp' := hp
        rw [Bool.and_eq_true] at hp'
        have hC : lC e = true := hp'.1
        have hF : fE e = false := by simpa using hp'.2
        have h8 : 8 ≤ e := by
          rcases cases14 he with h | h | h | h | h | h | h | h | h | h | h | h | h | h <;> rw [h] at hC hF ⊢ <;> first | omega | (exfalso; revert hC hF; decide)
        obtain ⟨x, hx⟩ : ∃ x, e = x + 6 := ⟨e - 6, by omega⟩
        have HX : Hid (frm e = x) := by show _ = _; rw [HF.out, if_pos hp]; omega
        rw [HX.out] at HS
        have HXE : Hid _ := hx
        clear hp hp' h8 HF HX hx
        go_wp2_with (first | (go_at_call 42; refine (moving_any e he _).mono ?_; rintro r w1 ⟨rfl, rfl⟩; rw [hC]) | (go_at_call 43; refine (fenced_any e he _).mono ?_; rintro r w1 ⟨rfl, rfl⟩; rw [hF]) | (go_at_call 44; refine (firmE_any e x he HXE.out _).mono ?_; rintro r w1 ⟨rfl, rfl⟩) | (at_builtin; go_must (refine wpList_pushN rfl _ _ 25 rfl w.heap.size w.heap.size w 3 Tryd.underlying25 Tryd.infoIntH _ ((l.take n).map frm) x (by rfl) (by rfl) HO.out hll HB.out (Nat.le_refl _) hbs ?_); intro v' w2 hown2 hb2 _; have HO2 : Hid _ := hown2; have HB2 : Hid _ := hb2; clear hown2 hb2))
        go_roundw
        case rel => exact ⟨n + 1, by omega, by go_num, by rw [HS.out]; exact HO2.out, HB2.out⟩
        case measure => simp [intOf]; omega
      · have HX : Hid (frm e = e) := by show _ = _; rw [HF.out, if_neg hp]
        rw [HX.out] at HS
        clear HF HX
        cases hC : lC e
        · clear hp
          go_wp2_with (first | (go_at_call 42; refine (moving_any e he _).mono ?_; rintro r w1 ⟨rfl, rfl⟩; rw [hC]) | (at_builtin; go_must (refine wpList_pushN rfl _ _ 25 rfl w.heap.size w.heap.size w 3 Tryd.underlying25 Tryd.infoIntH _ ((l.take n).map frm) e (by rfl) (by rfl) HO.out hll HB.out (Nat.le_refl _) hbs ?_); intro v' w2 hown2 hb2 _; have HO2 : Hid _ := hown2; have HB2 : Hid _ := hb2; clear hown2 hb2))
          go_roundw
          case rel => exact ⟨n + 1, by omega, by go_num, by rw [HS.out]; exact HO2.out, HB2.out⟩
          case measure => simp [intOf]; omega
        · have hF : fE e = true := by
            rw [hC] at hp
            simpa using hp
          clear hp
          go_wp2_with (first | (go_at_call 42; refine (moving_any e he _).mono ?_; rintro r w1 ⟨rfl, rfl⟩; rw [hC]) | (go_at_call 43; refine (fenced_any e he _).mono ?_; rintro r w1 ⟨rfl, rfl⟩; rw [hF]) | (at_builtin; go_must (refine wpList_pushN rfl _ _ 25 rfl w.heap.size w.heap.size w 3 Tryd.underlying25 Tryd.infoIntH _ ((l.take n).map frm) e (by rfl) (by rfl) HO.out hll HB.out (Nat.le_refl _) hbs ?_); intro v' w2 hown2 hb2 _; have HO2 : Hid _ := hown2; have HB2 : Hid _ := hb2; clear hown2 hb2))
          go_roundw
          case rel => exact ⟨n + 1, by omega, by go_num, by rw [HS.out]; exact HO2.out, HB2.out⟩
          case measure => simp [intOf]; omega
    · have : n = l.length := by omega
      subst this
      rw [List.take_length] at HO
      clear hown
      go_wp2
      go_ret
      exact ⟨_, rfl, HO.out, HB.out⟩

set_option maxRecDepth 100000 in
set_option maxHeartbeats 800000 in
/-- Script, where no order is: nothing -/
theorem script_none (s : ByteArray) (hs : s.size ≤ 9223372036854775807) (w : World) (hT : TabN w) (h0 : (rd s.data.toList).1 = 0) (hsh : shown (ringL s.data.toList) = false) :
    Calls Tryd.prog 14 #[.string s] w fun r w' => r = .returned (.tuple #[.slice none 0 0, .int .i64 8, .int .i64 0]) ∧ Below w.heap.size w w' := by
  go_enter Tryd.func14, Tryd.ntmps14
  go_wp2_with fail
  refine (readCycle_any s hs _ hT).mono ?_
  rintro r w1 ⟨v, rfl, hyes, hno, hb1⟩
  obtain ⟨hown, _⟩ := hyes h0
  have hrr := rd_ring h0
  have HR : Hid _ := hrr
  have hl := hrr.2.2.2.2.2.2
  have hl2 : (edgesOf s.data.toList).length ≤ 16 := by have h1 := hrr.2.2.1; have h2 := hrr.2.2.2.2.1; omega
  obtain ⟨g1, c1, hv1, hg1, hG1⟩ := hown.shape hl
  subst hv1
  have HB1 : Hid _ := hb1
  have HSH : Hid _ := hsh
  rw [h0]
  clear hyes hno hown h0 hrr hb1 hsh
  go_wp2_with fail
  refine (leastRotation_any (edgesOf s.data.toList) g1 0 c1 _ hG1 hl (by omega)).mono ?_
  rintro r w2 ⟨v2, rfl, hown2, hb2⟩
  have hll : (leastOf (edgesOf s.data.toList)).length = (edgesOf s.data.toList).length := leastTo_length _ _
  obtain ⟨g2, c2, hv2, hg2, hG2⟩ := hown2.shape (by rw [hll]; exact hl)
  have HB2 : Hid (Below w.heap.size w w2) := HB1.out.trans (hb2.mono HB1.out.size)
  have hC0 : 0 < (leastOf (edgesOf s.data.toList)).countP lC := by
    rw [← ring_count lC _ (by rw [hll]; exact hl)]; exact HR.out.1.toLay.some
  have hce := cycleEvents_any (leastOf (edgesOf s.data.toList)) g2 0 c2 w2 hG2 HR.out.2.2.2.2.2.1 (by rw [hll]; exact hl) (by rw [hll]; omega) hC0
  rw [hll] at hce hv2
  subst hv2
  have HCE : Hid _ := hce
  clear hce hown2 hb2 hC0 hll
  go_wp2_with fail
  refine Calls.mono HCE.out ?_
  rintro r w3 ⟨v3, rfl, hown3, hb3⟩
  have hrl : (ringL s.data.toList).length = (edgesOf s.data.toList).length := HR.out.2.2.2.2.1
  have hown3' : Own5 w3 w2.heap.size 110 v3 (ringL s.data.toList) (ringL s.data.toList).length := by
    have e1 : (leastOf (edgesOf s.data.toList)).length = (edgesOf s.data.toList).length := leastTo_length _ _
    rw [hrl]
    have : ringL s.data.toList = turn (leastOf (edgesOf s.data.toList)) (outTo (leastOf (edgesOf s.data.toList)) (edgesOf s.data.toList).length % (edgesOf s.data.toList).length) := by
      show ringOf (leastOf (edgesOf s.data.toList)) = _
      unfold ringOf
      rw [e1]
    rw [this]
    exact hown3
  obtain ⟨g3, c3, hv3, hg3, hP3⟩ := Own5.shape hown3' (by rw [hrl]; exact hl)
  subst hv3
  have HB3 : Hid (Below w.heap.size w w3) := HB2.out.trans (hb3.mono HB2.out.size)
  have hl16 : (ringL s.data.toList).length ≤ 64 := by omega
  have HHP : Hid _ := happenings_any (ringL s.data.toList) g3 c3 w3 hP3 HR.out.1.small hl16
  clear hown3 hown3' hb3 hrl hP3
  go_wp2_with fail
  refine Calls.mono HHP.out ?_
  rintro r w4 ⟨v4, rfl, hy4, hn4, hb4⟩
  have HB4 : Hid (Below w.heap.size w w4) := HB3.out.trans (hb4.mono HB3.out.size)
  rw [HSH.out]
  clear hy4 hn4 hb4
  go_wp2
  go_ret3
  exact ⟨rfl, HB4.out⟩

end Go.Proofs.YtokfiflflcfidabDoor
