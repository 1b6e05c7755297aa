import Derived.Test.YtokfiflflcfidabDoorRows
import Derived.Test.YtokfiflflcfidabDoorParseW
import Derived.Test.YtokfiflflcfidabDoorRefB
import Derived.Test.YtokfiflflcfidabDoorHapZ
import Derived.Test.YtokfiflflcfidabDoorText
import Derived.Lib.SmallJoins
import Derived.WalkKit
import Derived.WalkSpells
import Derived.WalkLawsBesides
import Derived.Deep.QuietTactic
import Derived.BigQuiet
namespace Go.Proofs.YtokfiflflcfidabDoor
open Go.RowKit

/-- the document's names -/
structure TabM (w : World) : Prop where
  lt2 : 2 < w.heap.size
  names : ∀ e, e < 14 → w.cell? ⟨2, e, none⟩ = some (.string (nm e))
theorem TabM.below {w w' : World} (h : TabM w) (B : Nat) (hb : Below B w w') (hB : w.heap.size ≤ B) : TabM w' := by
  replace hb := hb.mono hB
  exact ⟨Nat.lt_of_lt_of_le h.lt2 hb.size, fun e he => (hb.cell (p := ⟨_, e, none⟩) h.lt2).trans (h.names e he)⟩
theorem TabM.kept {w w' : World} (h : TabM w) (hb : Below w.heap.size w w') : TabM w' := h.below _ hb (Nat.le_refl _)

set_option maxRecDepth 100000 in
set_option maxHeartbeats 400000 in
theorem textM_any (l : List Nat) (b off cap : Nat) (w : World) (hA : Arr w b off l) (hE : ∀ x ∈ l, x < 14) (hl2 : l.length ≤ 1000) (hT : TabM w) :
    Calls Tryd.prog 16 #[.slice (some ⟨b, off, none⟩) l.length cap] w fun r w' => r = .returned (.string ⟨(tx l).toArray⟩) ∧ w' = w := by
  go_enter Tryd.func16, Tryd.ntmps16
  go_wp2
  go_loop [3, 4] (fun s i => ∃ n : Nat, n ≤ l.length ∧ i = .int .i64 n ∧ ∃ S : ByteArray, s = .string S ∧ S.data.toList = txTo l n) (fun _ i => l.length - (intOf i).toNat)
  case atStart => exact ⟨0, Nat.zero_le _, rfl, _, rfl, rfl⟩
  case round =>
    obtain ⟨n, hn, rfl, S, rfl, hS⟩ := hrel
    have HSS : Hid _ := hS
    clear hS
    by_cases hlt : n < l.length
    · have hc := hA.at hlt
      have he := getD_lt hE n
      have hnm := hT.names _ he
      have HS : Hid (txTo l (n + 1) = (if n = 0 then [] else txTo l n ++ [32]) ++ nmL (l[n]?.getD 0)) := rfl
      have hlen := txTo_length l n
      rw [← HSS.out, size_data] at hlen
      have hsz : S.size ≤ 4000 := by omega
      clear hlen
      generalize l[n]?.getD 0 = e at *
      have hei : (e : Int) < 14 := by omega
      have hns := nm_size e
      by_cases h0 : n = 0
      · have h0i : ¬ ((0 : Int) < (n : Int)) := by omega
        have HZ : Hid _ := h0
        clear h0
        go_wp2
        go_round
        case rel =>
          refine ⟨n + 1, by omega, by go_num, _, rfl, ?_⟩
          rw [HS.out, if_pos HZ.out, Joins.data_append, HSS.out, HZ.out]; rfl
        case measure => simp [intOf]; omega
      · have h0i : ((0 : Int) < (n : Int)) := by omega
        go_wp2
        go_round
        case rel =>
          refine ⟨n + 1, by omega, by go_num, _, rfl, ?_⟩
          rw [HS.out, if_neg h0, Joins.data_append, Joins.data_append, HSS.out]; rfl
        case measure => simp [intOf]; omega
    · go_wp2
      go_ret
      have : n = l.length := by omega
      subst this
      refine ⟨?_, rfl⟩
      show Ending.returned (.string S) = _
      have : S = ⟨(tx l).toArray⟩ := by
        obtain ⟨d⟩ := S
        congr 1
        apply Array.toList_inj.1
        rw [HSS.out]; rfl
      rw [this]

set_option maxRecDepth 100000 in
set_option maxHeartbeats 400000 in
theorem matchesL_any (s : ByteArray) (hs : s.size ≤ 1048576) (w : World) (hT : TabM w) :
    Calls Tryd.prog 57 #[.string s] w fun r w' => r = .returned (.tuple #[.int .i64 ((mt s.data.toList 14).1 : Nat), .int .i64 ((mt s.data.toList 14).2 : Nat)]) ∧ Below w.heap.size w w' := by
  go_enter Tryd.func57, Tryd.ntmps57
  go_wp2
  go_loopw [4, 5, 6] (fun p q i wr => ∃ n : Nat, n ≤ 14 ∧ i = .int .i64 n ∧ p = .int .i64 ((mt s.data.toList n).1 : Nat) ∧ q = .int .i64 ((mt s.data.toList n).2 : Nat) ∧ Below w.heap.size w wr) (fun _ _ i _ => 14 - (intOf i).toNat)
  case atStart => exact ⟨0, Nat.zero_le _, rfl, rfl, rfl, Below.refl _ _⟩
  case round =>
    obtain ⟨n, hn, rfl, rfl, rfl, hb⟩ := hrel
    have hle := mt_le s.data.toList n
    have hle1 := hle.1
    have hle2 := hle.2
    clear hle
    by_cases hlt : n < 14
    · have HM : Hid (mt s.data.toList (n + 1) = if (mt s.data.toList n).1 < cpl n s.data.toList then (cpl n s.data.toList, n) else ((mt s.data.toList n).1, (mt s.data.toList n).2)) := rfl
      generalize (mt s.data.toList n).1 = P at *
      generalize (mt s.data.toList n).2 = Q at *
      have hsz := nm_size n
      go_wp2
      go_loopw [7] (fun i wr2 => ∃ k : Nat, k ≤ 3 ∧ k ≤ s.size ∧ i = .int .i64 k ∧ (∀ j, j < k → (decide (j < s.data.toList.length) && (nmL n)[j]?.getD 0 == s.data.toList[j]?.getD 0) = true) ∧ Below w.heap.size w wr2) (fun i _ => 3 - (intOf i).toNat)
      case atStart => exact ⟨0, by omega, by omega, rfl, fun j hj => absurd hj (by omega), hb⟩
      case round =>
        obtain ⟨k, hk, hks, rfl, hall, hb2⟩ := hrel
        have HA : Hid _ := hall
        clear hall
        have hc := ((hT.below w.heap.size hb2 (Nat.le_refl _)).names n hlt)
        have hsd := size_data s
        by_cases hk3 : k < 3
        · have hd1 : decide ((k : Int) < 3) = true := by simp; omega
          by_cases hkl : k < s.size
          · have hd2 : decide ((k : Int) < (s.size : Int)) = true := by simp; omega
            have hkx : k < (nm n).size := by omega
            have HB : Hid ((decide (k < s.data.toList.length) && (nmL n)[k]?.getD 0 == s.data.toList[k]?.getD 0) = ((((nm n)[k]'hkx).toNat : Int) == ((s[k]'hkl).toNat : Int))) := by
              show _ = _
              rw [beq_byte, ← byte_at s k hkl, ← byte_at (nm n) k (by omega), hsd, decide_eq_true hkl, Bool.true_and]
              rfl
            have hkxi : (k : Int) < ((nm n).size : Int) := by omega
            clear hsz
            cases hq : ((((nm n)[k]'hkx).toNat : Int) == ((s[k]'hkl).toNat : Int))
            · have HK : Hid (cpl n s.data.toList = k) := firstNo_eq _ _ _ hk HA.out (Or.inr (by show (_ && _) = false; rw [HB.out, hq]))
              rw [HK.out] at HM
              by_cases hcm : P < k
              all_goals
                go_wp2
                go_quiet (fail)
                go_wp2
                go_roundw
                case rel => exact ⟨n + 1, by omega, by go_num, by rw [HM.out]; simp [hcm], by rw [HM.out]; simp [hcm], below_drewN hb2 _⟩
                case measure => simp [intOf]; omega
            · go_wp2
              go_quiet (fail)
              go_wp2
              go_roundw
              case rel =>
                refine ⟨k + 1, by omega, by omega, by go_num, fun j hj => ?_, below_drewN hb2 _⟩
                by_cases hjk : j = k
                · rw [hjk, HB.out, hq]
                · exact HA.out j (by omega)
              case measure => simp [intOf]; omega
          · have hd : decide ((k : Int) < (s.size : Int)) = false := by simp; omega
            have HK : Hid (cpl n s.data.toList = k) := firstNo_eq _ _ _ hk HA.out (Or.inr (by show (_ && _) = false; rw [hsd, decide_eq_false hkl]; rfl))
            rw [HK.out] at HM
            by_cases hcm : P < k
            all_goals
              go_wp2
              go_quiet (fail)
              go_wp2
              go_roundw
              case rel => exact ⟨n + 1, by omega, by go_num, by rw [HM.out]; simp [hcm], by rw [HM.out]; simp [hcm], below_drewN hb2 _⟩
              case measure => simp [intOf]; omega
        · have hd : decide ((k : Int) < 3) = false := by simp; omega
          have HK : Hid (cpl n s.data.toList = k) := firstNo_eq _ _ _ hk HA.out (Or.inl (by omega))
          rw [HK.out] at HM
          by_cases hcm : P < k
          all_goals
            go_wp2
            go_quiet (fail)
            go_wp2
            go_roundw
            case rel => exact ⟨n + 1, by omega, by go_num, by rw [HM.out]; simp [hcm], by rw [HM.out]; simp [hcm], below_drewN hb2 _⟩
            case measure => simp [intOf]; omega
    · go_wp2
      go_ret2
      have hnl : n = 14 := by omega
      subst hnl
      exact ⟨rfl, hb⟩

set_option maxRecDepth 100000 in
set_option maxHeartbeats 800000 in
theorem edgesL_any (s : ByteArray) (hs : s.size ≤ 1048576) (w : World) (hT : TabM w) :
    Calls Tryd.prog 28 #[.string s] w fun r w' => ∃ v p ok, r = .returned (.tuple #[v, .int .i64 p, .bool ok]) ∧ EdgesAns w w' s.data.toList v p ok ∧ Below w.heap.size w w' := by
  go_enter Tryd.func28, Tryd.ntmps28
  go_wp2
  go_loopw [5, 6] (fun v i wr => ∃ n : Nat, n ≤ s.size ∧ n % 4 = 0 ∧ i = .int .i64 n ∧ (∀ j, j < n → okAt s.data.toList j = true) ∧ Own wr w.heap.size 3 v (edgesTo s.data.toList n) ∧ Below w.heap.size w wr) (fun _ i _ => s.size - (intOf i).toNat)
  case atStart => exact ⟨0, Nat.zero_le _, rfl, rfl, fun j hj => absurd hj (by omega), Own.nil _ _ _, Below.refl _ _⟩
  case round =>
    obtain ⟨n, hn, h4, rfl, hall, hown, hb⟩ := hrel
    have HA : Hid _ := hall
    have H4 : Hid _ := h4
    clear hall h4
    have hsd := size_data s
    have HX : Hid ((s.extract n s.size).data.toList = s.data.toList.drop n) := Lib.extract_to_end s n
    have hxs : (s.extract n s.size).size ≤ 1048576 := by rw [← size_data, HX.out]; simp; omega
    go_wp2_with fail
    refine (matchesL_any _ hxs _ (hT.below _ hb (Nat.le_refl _))).mono ?_
    rintro r w1 ⟨rfl, hb1⟩
    rw [HX.out]
    have hm := mt_le (s.data.toList.drop n) 14
    have hm1 := hm.1
    clear hm
    have hbb := hb.trans (hb1.mono hb.size)
    have hown' := hown.kept hb1
    clear hown hb1
    by_cases hw : (mt (s.data.toList.drop n) 14).1 < 3
    · have S3 := stop_word HA.out H4.out (by omega) hw
      have HS : Hid _ := S3
      clear S3
      generalize (mt (s.data.toList.drop n) 14).1 = p at *
      generalize (mt (s.data.toList.drop n) 14).2 = q at *
      go_wp2
      go_ret3
      exact ⟨.slice none 0 0, _, false, rfl, Or.inr ⟨HS.out.1, rfl, by rw [HS.out.2.2]; simp, rfl⟩, hbb⟩
    · have P3 := pass_word HA.out H4.out (show (mt (s.data.toList.drop n) 14).1 = 3 by omega)
      have HP : Hid _ := P3
      have hn3 := P3.1
      have hpe : (mt (s.data.toList.drop n) 14).1 = 3 := by omega
      clear P3
      rw [hpe]
      generalize (mt (s.data.toList.drop n) 14).2 = q at *
      generalize (mt (s.data.toList.drop n) 14).1 = p at *
      clear hpe hw hm1
      have hlen2 : (edgesTo s.data.toList n).length ≤ 1000000 := by rw [edgesTo_length]; omega
      by_cases hend : n + 3 = s.size
      · have hendi : ((n : Int) + 3 == (s.size : Int)) = true := by rw [beq_iff_eq]; omega
        go_wp2_with (at_builtin; go_must (refine wpList_pushN rfl _ _ 25 rfl w.heap.size w.heap.size w 3 Tryd.underlying25 Tryd.infoInt _ _ q (by rfl) (by rfl) hown' (by omega) hbb (Nat.le_refl _) hbb.size ?_); intro v' w2 hown1 hb2 _; clear hown' hbb)
        go_ret3
        have S3 := stop_whole (s := s.data.toList) (by rw [hsd, ← hend]; exact HP.out.2.2.2) (by have := H4.out; rw [hsd]; omega)
        refine ⟨_, 0, true, rfl, Or.inl ⟨S3.1, rfl, rfl, ?_⟩, hb2⟩
        unfold edgesOf
        rw [hsd, ← hend, HP.out.2.2.1]
        exact hown1
      · have hendi : ((n : Int) + 3 == (s.size : Int)) = false := by rw [beq_eq_false_iff_ne]; omega
        have hlt : n + 3 < s.size := by omega
        have HO : Hid (okAt s.data.toList (n + 3) = (((s[n + 3].toNat : Nat) : Int) == 32)) := by
          show _ = _
          rw [okAt_blank (by have := H4.out; omega), byte_at s (n + 3) hlt, ← beq_byte]; rfl
        cases hbl : (((s[n + 3].toNat : Nat) : Int) == 32)
        · go_wp2_with (at_builtin; go_must (refine wpList_pushN rfl _ _ 25 rfl w.heap.size w.heap.size w 3 Tryd.underlying25 Tryd.infoInt _ _ q (by rfl) (by rfl) hown' (by omega) hbb (Nat.le_refl _) hbb.size ?_); intro v' w2 hown1 hb2 _; clear hown' hbb)
          go_ret3
          have S3 := stop_at HP.out.2.2.2 (by omega) (by rw [HO.out, hbl])
          exact ⟨.slice none 0 0, _, false, rfl, Or.inr ⟨S3.1, rfl, by rw [S3.2.2]; simp, rfl⟩, hb2⟩
        · go_wp2_with (at_builtin; go_must (refine wpList_pushN rfl _ _ 25 rfl w.heap.size w.heap.size w 3 Tryd.underlying25 Tryd.infoInt _ _ q (by rfl) (by rfl) hown' (by omega) hbb (Nat.le_refl _) hbb.size ?_); intro v' w2 hown1 hb2 _; clear hown' hbb)
          go_roundw
          case rel =>
            refine ⟨n + 4, by omega, by have := H4.out; omega, by go_num, fun j hj => ?_, ?_, hb2⟩
            · by_cases hjn : j = n + 3
              · rw [hjn, HO.out, hbl]
              · exact HP.out.2.2.2 j (by omega)
            · rw [edgesTo_same (n := n + 3) (by have := H4.out; omega), HP.out.2.2.1]; exact hown1
          case measure => simp [intOf]; omega

set_option maxRecDepth 100000 in
set_option maxHeartbeats 800000 in
theorem edgesC_any (s : ByteArray) (hs : s.size ≤ 1048576) (w : World) (hT : TabM w) :
    Calls Tryd.prog 18 #[.string s] w fun r w' => ∃ v ok, r = .returned (.tuple #[v, .bool ok]) ∧ (isE s.data.toList = true ∧ ok = true ∧ Own w' w.heap.size 3 v (edgesOf s.data.toList) ∨ isE s.data.toList = false ∧ ok = false ∧ v = .slice none 0 0) ∧ Below w.heap.size w w' := by
  go_enter Tryd.func18, Tryd.ntmps18
  go_wp2_with fail
  refine (edgesL_any s hs _ hT).mono ?_
  rintro r w1 ⟨v, p, ok, rfl, hA, hb⟩
  have HA : Hid (isE s.data.toList = true ∧ ok = true ∧ Own w1 w.heap.size 3 v (edgesOf s.data.toList) ∨ isE s.data.toList = false ∧ ok = false ∧ v = .slice none 0 0) := by
    rcases hA with ⟨h1, h2, _, h4⟩ | ⟨h1, h2, _, h4⟩
    · exact Or.inl ⟨h1, h2, h4⟩
    · exact Or.inr ⟨h1, h2, h4⟩
  clear hA
  go_wp2
  go_ret2
  exact ⟨v, ok, rfl, HA.out, hb⟩

set_option maxRecDepth 100000 in
set_option maxHeartbeats 400000 in
/-- equal lists -/
theorem sameInts_eq (l : List Nat) (v u : Value) (w : World) (h : NumRd w v l) (k : NumRd w u l) (hl : l.length ≤ 1000000) :
    Calls Tryd.prog 23 #[v, u] w fun r w' => r = .returned (.bool true) ∧ ∃ m, w' = w.drewN m := by
  obtain ⟨a, ca, rfl, hA⟩ := h
  obtain ⟨b, cb, rfl, hB⟩ := k
  have HA : Hid _ := hA
  have HB : Hid _ := hB
  clear hA hB
  obtain ⟨n, hn⟩ : ∃ n, l.length = n := ⟨_, rfl⟩
  rw [hn] at HA HB hl ⊢
  clear hn
  go_enter Tryd.func23, Tryd.ntmps23
  go_wp2
  go_loopw [5] (fun i wr => ∃ k : Nat, k ≤ n ∧ i = .int .i64 k ∧ ∃ m, wr = w.drewN m) (fun i _ => n - (intOf i).toNat)
  case atStart => exact ⟨0, Nat.zero_le _, rfl, 0, rfl⟩
  case round =>
    obtain ⟨k, hk, rfl, m, rfl⟩ := hrel
    by_cases hlt : k < n
    · obtain ⟨b1, o1, rfl, _, h1⟩ := HA.out k hlt
      obtain ⟨b2, o2, rfl, _, h2⟩ := HB.out k hlt
      generalize l[k]?.getD 0 = x at *
      go_wp2
      go_quiet (fail)
      go_wp2
      go_roundw
      case rel => exact ⟨k + 1, by omega, by go_num, _, rfl⟩
      case measure => simp [intOf]; omega
    · go_wp2
      go_ret
      exact ⟨rfl, _, rfl⟩

end Go.Proofs.YtokfiflflcfidabDoor
