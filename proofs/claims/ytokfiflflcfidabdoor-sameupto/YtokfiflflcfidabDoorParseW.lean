import Derived.Test.YtokfiflflcfidabDoorRows
import Derived.Test.YtokfiflflcfidabDoorPlain
import Derived.Test.YtokfiflflcfidabDoorParse
import Derived.Test.YtokfiflflcfidabDoorMem
import Derived.Test.YtokfiflflcfidabDoorPreds
import Derived.Test.YtokfiflflcfidabDoorProgA
import Derived.WalkKit
import Derived.WalkSpells
import Derived.WalkLawsBesides
import Derived.Deep.QuietTactic
import Derived.BigQuiet
namespace Go.Proofs.YtokfiflflcfidabDoor
open Go.RowKit

/-- the program's table lies where it was laid -/
def TabN (w : World) : Prop := 3 < w.heap.size ∧ ∀ e, e < 14 → w.cell? ⟨3, e, none⟩ = some (.string (nm e))
theorem TabN.kept {w w' : World} (h : TabN w) (hb : Below w.heap.size w w') : TabN w' :=
  ⟨Nat.lt_of_lt_of_le h.1 hb.size, fun e he => (hb.cell (p := ⟨_, e, none⟩) h.1).trans (h.2 e he)⟩
/-- the document's tables -/
structure TabR (w : World) : Prop where
  lt0 : 0 < w.heap.size
  lt1 : 1 < w.heap.size
  lt2 : 2 < w.heap.size
  starts : ∀ e, e < 14 → w.cell? ⟨0, e, none⟩ = some (.bool (bW e))
  ends : ∀ e, e < 14 → w.cell? ⟨1, e, none⟩ = some (.bool (eW e))
  names : ∀ e, e < 14 → w.cell? ⟨2, e, none⟩ = some (.string (nm e))
theorem TabR.below {w w' : World} (h : TabR w) (B : Nat) (hb : Below B w w') (hB : w.heap.size ≤ B) : TabR w' := by
  replace hb := hb.mono hB
  exact ⟨Nat.lt_of_lt_of_le h.lt0 hb.size, Nat.lt_of_lt_of_le h.lt1 hb.size, Nat.lt_of_lt_of_le h.lt2 hb.size,
    fun e he => (hb.cell (p := ⟨_, e, none⟩) h.lt0).trans (h.starts e he), fun e he => (hb.cell (p := ⟨_, e, none⟩) h.lt1).trans (h.ends e he), fun e he => (hb.cell (p := ⟨_, e, none⟩) h.lt2).trans (h.names e he)⟩

theorem TabR.kept {w w' : World} (h : TabR w) (hb : Below w.heap.size w w') : TabR w' := h.below _ hb (Nat.le_refl _)

set_option maxRecDepth 100000 in
set_option maxHeartbeats 400000 in
theorem name_any (e : Nat) (he : e < 14) (w : World) (hT : TabN w) :
    Calls Tryd.prog 76 #[.int .i64 e] w fun r w' => r = .returned (.string (nm e)) ∧ w' = w := by
  have hc := hT.2 e he
  have h0 : ¬ ((e : Int) < 0) := by omega
  go_enter Tryd.func76, Tryd.ntmps76
  go_wp2
  go_ret
  exact ⟨rfl, rfl⟩

set_option maxRecDepth 100000 in
set_option maxHeartbeats 400000 in
theorem edgeBeginningWith_any (s : ByteArray) (hs : s.size ≤ 3) (w : World) (hT : TabN w) :
    Calls Tryd.prog 77 #[.string s] w fun r w' => r = .returned (.int .i64 (ebwI s.data.toList)) ∧ w' = w := by
  go_enter Tryd.func77, Tryd.ntmps77
  go_wp2
  go_loop [3] (fun i => ∃ n : Nat, n ≤ 14 ∧ i = .int .i64 n ∧ ∀ j, j < n → (!(s.data.toList.isPrefixOf (nmL j))) = true) (fun i => 14 - (intOf i).toNat)
  case atStart => exact ⟨0, Nat.zero_le _, rfl, fun j hj => absurd hj (by omega)⟩
  case round =>
    obtain ⟨n, hn, rfl, hall⟩ := hrel
    have HA : Hid _ := hall
    clear hall
    by_cases hlt : n < 14
    · have hsz := nm_size n
      have HP : Hid _ := pfx s n
      go_wp2_with fail
      refine (name_any n hlt _ hT).mono ?_
      rintro r w1 ⟨rfl, rfl⟩
      generalize nm n = x at *
      have hsl : (s.size : Int) ≤ (x.size : Int) := by omega
      cases hq : ((x.extract 0 s.size).toList == s.toList)
      · go_wp2
        go_round
        case rel =>
          refine ⟨n + 1, by omega, by go_num, fun j hj => ?_⟩
          by_cases hjn : j = n
          · rw [hjn, ← HP.out, hq]; rfl
          · exact HA.out j (by omega)
        case measure => simp [intOf]; omega
      · go_wp2
        go_ret
        refine ⟨?_, rfl⟩
        have e1 : ebw s.data.toList = n := firstNo_eq _ _ _ hn HA.out (Or.inr (by show (!(s.data.toList.isPrefixOf (nmL n))) = false; rw [← HP.out, hq]; rfl))
        rw [ebwI_some e1 hlt]; rfl
    · go_wp2
      go_ret
      refine ⟨?_, rfl⟩
      have hnl : n = 14 := by omega
      have : ebw s.data.toList = 14 := firstNo_eq _ _ _ (Nat.le_refl _) (by rw [← hnl]; exact HA.out) (Or.inl rfl)
      rw [ebwI_none this]; rfl

set_option maxRecDepth 100000 in
set_option maxHeartbeats 400000 in
theorem matches_any (s : ByteArray) (hs : s.size ≤ 1000) (w : World) (hT : TabR w) :
    Calls Tryd.prog 57 #[.string s] w fun r w' => r = .returned (.tuple #[.int .i64 ((mt s.data.toList 14).1 : Nat), .int .i64 ((mt s.data.toList 14).2 : Nat)]) ∧ Below w.heap.size w w' := by
  go_enter Tryd.func57, Tryd.ntmps57
  go_wp2
  go_loopw [4, 5, 6] (fun p q i wr => ∃ n : Nat, n ≤ 14 ∧ i = .int .i64 n ∧ p = .int .i64 ((mt s.data.toList n).1 : Nat) ∧ q = .int .i64 ((mt s.data.toList n).2 : Nat) ∧ Below w.heap.size w wr) (fun _ _ i _ => 14 - (intOf i).toNat)
  case atStart => exact ⟨0, Nat.zero_le _, rfl, rfl, rfl, Below.refl _ _⟩
  case round =>
    obtain ⟨n, hn, rfl, rfl, rfl, hb⟩ := hrel
    have hle := mt_le s.data.toList n
    have hle1 := hle.1
    have hle2 := hle.2
    clear hle
    by_cases hlt : n < 14
    · have HM : Hid (mt s.data.toList (n + 1) = if (mt s.data.toList n).1 < cpl n s.data.toList then (cpl n s.data.toList, n) else ((mt s.data.toList n).1, (mt s.data.toList n).2)) := rfl
      generalize (mt s.data.toList n).1 = P at *
      generalize (mt s.data.toList n).2 = Q at *
      have hsz := nm_size n
      go_wp2
      go_loopw [7] (fun i wr2 => ∃ k : Nat, k ≤ 3 ∧ k ≤ s.size ∧ i = .int .i64 k ∧ (∀ j, j < k → (decide (j < s.data.toList.length) && (nmL n)[j]?.getD 0 == s.data.toList[j]?.getD 0) = true) ∧ Below w.heap.size w wr2) (fun i _ => 3 - (intOf i).toNat)
      case atStart => exact ⟨0, by omega, by omega, rfl, fun j hj => absurd hj (by omega), hb⟩
      case round =>
        obtain ⟨k, hk, hks, rfl, hall, hb2⟩ := hrel
        have HA : Hid _ := hall
        clear hall
        have hc := ((hT.below w.heap.size hb2 (Nat.le_refl _)).names n hlt)
        have hsd := size_data s
        by_cases hk3 : k < 3
        · have hd1 : decide ((k : Int) < 3) = true := by simp; omega
          by_cases hkl : k < s.size
          · have hd2 : decide ((k : Int) < (s.size : Int)) = true := by simp; omega
            have hkx : k < (nm n).size := by omega
            have HB : Hid ((decide (k < s.data.toList.length) && (nmL n)[k]?.getD 0 == s.data.toList[k]?.getD 0) = ((((nm n)[k]'hkx).toNat : Int) == ((s[k]'hkl).toNat : Int))) := by
              show _ = _
              rw [beq_byte, ← byte_at s k hkl, ← byte_at (nm n) k (by omega), hsd, decide_eq_true hkl, Bool.true_and]
              rfl
            have hkxi : (k : Int) < ((nm n).size : Int) := by omega
            clear hsz
            cases hq : ((((nm n)[k]'hkx).toNat : Int) == ((s[k]'hkl).toNat : Int))
            · have HK : Hid (cpl n s.data.toList = k) := firstNo_eq _ _ _ hk HA.out (Or.inr (by show (_ && _) = false; rw [HB.out, hq]))
              rw [HK.out] at HM
              by_cases hcm : P < k
              all_goals
                go_wp2
                go_quiet (fail)
                go_wp2
                go_roundw
                case rel => exact ⟨n + 1, by omega, by go_num, by rw [HM.out]; simp [hcm], by rw [HM.out]; simp [hcm], below_drewN hb2 _⟩
                case measure => simp [intOf]; omega
            · go_wp2
              go_quiet (fail)
              go_wp2
              go_roundw
              case rel =>
                refine ⟨k + 1, by omega, by omega, by go_num, fun j hj => ?_, below_drewN hb2 _⟩
                by_cases hjk : j = k
                · rw [hjk, HB.out, hq]
                · exact HA.out j (by omega)
              case measure => simp [intOf]; omega
          · have hd : decide ((k : Int) < (s.size : Int)) = false := by simp; omega
            have HK : Hid (cpl n s.data.toList = k) := firstNo_eq _ _ _ hk HA.out (Or.inr (by show (_ && _) = false; rw [hsd, decide_eq_false hkl]; rfl))
            rw [HK.out] at HM
            by_cases hcm : P < k
            all_goals
              go_wp2
              go_quiet (fail)
              go_wp2
              go_roundw
              case rel => exact ⟨n + 1, by omega, by go_num, by rw [HM.out]; simp [hcm], by rw [HM.out]; simp [hcm], below_drewN hb2 _⟩
              case measure => simp [intOf]; omega
        · have hd : decide ((k : Int) < 3) = false := by simp; omega
          have HK : Hid (cpl n s.data.toList = k) := firstNo_eq _ _ _ hk HA.out (Or.inl (by omega))
          rw [HK.out] at HM
          by_cases hcm : P < k
          all_goals
            go_wp2
            go_quiet (fail)
            go_wp2
            go_roundw
            case rel => exact ⟨n + 1, by omega, by go_num, by rw [HM.out]; simp [hcm], by rw [HM.out]; simp [hcm], below_drewN hb2 _⟩
            case measure => simp [intOf]; omega
    · go_wp2
      go_ret2
      have hnl : n = 14 := by omega
      subst hnl
      exact ⟨rfl, hb⟩

set_option maxRecDepth 100000 in
set_option maxHeartbeats 800000 in
theorem readEdges_any (s : ByteArray) (hs : s.size ≤ 1000) (w : World) (hT : TabN w) :
    Calls Tryd.prog 47 #[.string s] w fun r w' => ∃ v, r = .returned (.tuple #[v, .int .i64 (rdE s.data.toList : Nat), .int .i64 (rdP s.data.toList : Nat)]) ∧
      (isE s.data.toList = true → Own w' w.heap.size 108 v (edgesOf s.data.toList)) ∧ (isE s.data.toList = false → v = .slice none 0 0) ∧ Below w.heap.size w w' := by
  go_enter Tryd.func47, Tryd.ntmps47
  go_wp2
  go_loopw [5, 6] (fun v i wr => ∃ n : Nat, n ≤ s.size ∧ i = .int .i64 n ∧ (∀ j, j < n → okAt s.data.toList j = true) ∧ Own wr w.heap.size 108 v (edgesTo s.data.toList n) ∧ Below w.heap.size w wr) (fun _ i _ => s.size - (intOf i).toNat)
  case atStart => exact ⟨0, Nat.zero_le _, rfl, fun j hj => absurd hj (by omega), Own.nil _ _ _, Below.refl _ _⟩
  case round =>
    obtain ⟨n, hn, rfl, hall, hown, hb⟩ := hrel
    have HA : Hid _ := hall
    clear hall
    have hsd := size_data s
    by_cases hlt : n < s.size
    · by_cases h3 : n % 4 = 3
      · have hm : ((n : Int) % 4) = 3 := by omega
        have HO : Hid (okAt s.data.toList n = (((s[n].toNat : Nat) : Int) == 32)) := by
          show _ = _
          rw [okAt_blank h3, byte_at s n hlt, ← beq_byte]; rfl
        cases hbl : (((s[n].toNat : Nat) : Int) == 32)
        · go_wp2
          go_ret3
          have S3 := stop_at HA.out (by omega) (by rw [HO.out, hbl])
          refine ⟨.slice none 0 0, by rw [S3.2.1, S3.2.2]; rfl, fun h => ?_, fun _ => rfl, hb⟩
          rw [S3.1] at h; cases h
        · go_wp2
          go_roundw
          case rel => 
            refine ⟨n + 1, by omega, by go_num, fun j hj => ?_, by rw [edgesTo_same (by omega)]; exact hown, hb⟩
            by_cases hjn : j = n
            · rw [hjn, HO.out, hbl]
            · exact HA.out j (by omega)
          case measure => simp [intOf]; omega
      · obtain ⟨c, hcc⟩ : ∃ c, c = n % 4 := ⟨_, rfl⟩
        have hm : ((n : Int) % 4) = (c : Int) := by omega
        have hc3 : c < 3 := by omega
        have hcn : c ≤ n := by omega
        have hbeq : ((c : Int) == 3) = false := by rw [beq_eq_false_iff_ne]; omega
        have HO : Hid _ := okAt_letter (s := s.data.toList) h3
        have HC : Hid _ := hcc
        clear hcc h3
        have HX : Hid ((s.extract (n - c) (n + 1)).data.toList = seg s.data.toList (n - n % 4) (n + 1)) := by show _ = _; rw [seg_extract, ← HC.out]
        have hxs : (s.extract (n - c) (n + 1)).size ≤ 3 := by rw [← size_data, HX.out]; simp [seg]; omega
        go_wp2_with fail
        refine (edgeBeginningWith_any _ hxs _ (hT.kept hb)).mono ?_
        rintro r w1 ⟨rfl, rfl⟩
        rcases ebwI_cases (s.extract (n - c) (n + 1)).data.toList with ⟨h1, h2⟩ | ⟨e, h1, h2, h3⟩
        · have H2 : Hid _ := h2
          clear h2
          have HZ : Hid _ := h1
          generalize ebwI (s.extract (n - c) (n + 1)).data.toList = z at *
          subst h1
          go_wp2
          go_ret3
          have S3 := stop_at HA.out (by omega) (by rw [HO.out, ← HX.out, H2.out]; rfl)
          refine ⟨.slice none 0 0, by rw [S3.2.1, S3.2.2]; rfl, fun h => ?_, fun _ => rfl, hb⟩
          rw [S3.1] at h; cases h
        · have H3 : Hid _ := h3
          clear h3
          have hnl : ((e : Int) == -1) = false := by rw [beq_eq_false_iff_ne]; omega
          generalize ebwI (s.extract (n - c) (n + 1)).data.toList = z at *
          subst h1
          have HK : Hid (okAt s.data.toList n = true) := by show _ = _; rw [HO.out, ← HX.out, H3.out]; simpa using h2
          have HJ : Hid (∀ j, j < n + 1 → okAt s.data.toList j = true) := by
            intro j hj
            by_cases hjn : j = n
            · rw [hjn]; exact HK.out
            · exact HA.out j (by omega)
          by_cases hc2 : c = 2
          · have HE : Hid (edgesTo s.data.toList (n + 1) = edgesTo s.data.toList n ++ [e]) := by
              show _ = _
              rw [edgesTo_more (by rw [← HC.out]; exact hc2), ← HX.out, H3.out]
            subst hc2
            have hlen := edgesTo_length s.data.toList n
            have hlen2 : (edgesTo s.data.toList n).length ≤ 1000 := by omega
            clear hlen
            go_wp2_with (at_builtin; go_must (refine wpList_pushN rfl _ _ 58 rfl w.heap.size w.heap.size w 108 Tryd.underlying58 Tryd.infoEdge _ _ e (by rfl) (by rfl) hown (by omega) hb (Nat.le_refl _) hb.size ?_); intro v' w1 hown1 hb1 _; clear hown hb)
            go_roundw
            case rel => exact ⟨n + 1, by omega, by go_num, HJ.out, by rw [HE.out]; exact hown1, hb1⟩
            case measure => simp [intOf]; omega
          · have hcb : ((c : Int) == 2) = false := by rw [beq_eq_false_iff_ne]; omega
            have HE : Hid (edgesTo s.data.toList (n + 1) = edgesTo s.data.toList n) := edgesTo_same (by rw [← HC.out]; exact hc2)
            go_wp2
            go_roundw
            case rel => exact ⟨n + 1, by omega, by go_num, HJ.out, by rw [HE.out]; exact hown, hb⟩
            case measure => simp [intOf]; omega
    · have hnl : n = s.size := by omega
      subst hnl
      rw [← hsd] at HA
      by_cases h3 : s.size % 4 = 3
      · have hm : ((s.size : Int) % 4) = 3 := by omega
        go_wp2
        go_ret3
        have S3 := stop_whole HA.out (by rw [hsd]; exact h3)
        refine ⟨_, by rw [S3.2.1, S3.2.2]; rfl, fun _ => by unfold edgesOf; rw [hsd]; exact hown, fun h => ?_, hb⟩
        rw [S3.1] at h; cases h
      · have hm : (((s.size : Int) % 4) == 3) = false := by rw [beq_eq_false_iff_ne]; omega
        go_wp2
        go_ret3
        have S3 := stop_short HA.out (by rw [hsd]; exact h3)
        refine ⟨.slice none 0 0, by rw [S3.2.1, S3.2.2, hsd]; rfl, fun h => ?_, fun _ => rfl, hb⟩
        rw [S3.1] at h; cases h

end Go.Proofs.YtokfiflflcfidabDoor
