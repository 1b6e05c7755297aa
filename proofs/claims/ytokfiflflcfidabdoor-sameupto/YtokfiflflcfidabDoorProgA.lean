import Derived.Test.YtokfiflflcfidabDoorRows
import Derived.Test.YtokfiflflcfidabDoorPlain
import Derived.Test.YtokfiflflcfidabDoorMem
import Derived.Test.YtokfiflflcfidabDoorPreds
import Derived.WalkKit
import Derived.WalkSpells
import Derived.WalkLawsBesides
import Derived.Deep.QuietTactic
import Derived.BigQuiet
namespace Go.Proofs.YtokfiflflcfidabDoor
open Go.RowKit

theorem Tryd.infoEdge : (Tryd.prog.info? 108).map (fun i => (i.zero, i.size, i.bytes)) = some (some (.int .i64 0), 1, 8) := by kernel_rfl

set_option maxRecDepth 100000 in
set_option maxHeartbeats 800000 in
theorem rotated_any (l : List Nat) (b off cap k : Nat) (w : World) (hA : Arr w b off l) (hl2 : l.length ≤ 1000) (hk : k ≤ l.length) :
    Calls Tryd.prog 49 #[.slice (some ⟨b, off, none⟩) l.length cap, .int .i64 k] w fun r w' => ∃ v, r = .returned v ∧ Own w' w.heap.size 108 v (turn l k) ∧ Below w.heap.size w w' := by
  have hk0 : ¬ ((k : Int) < 0) := by omega
  have hk1 : ¬ ((l.length : Int) < (k : Int)) := by omega
  go_enter Tryd.func49, Tryd.ntmps49
  go_wp2
  go_loopw [5, 6] (fun v i wr => ∃ n : Nat, k + n ≤ l.length ∧ i = .int .i64 (k + n : Nat) ∧ Own wr w.heap.size 108 v ((l.drop k).take n) ∧ Below w.heap.size w wr) (fun _ i _ => l.length - (intOf i).toNat)
  case atStart => exact ⟨0, by omega, rfl, Own.nil _ _ _, Below.refl _ _⟩
  case round =>
    obtain ⟨n, hn, rfl, hown, hb⟩ := hrel
    by_cases hlt : k + n < l.length
    · have hc := (hA.kept hb).at hlt
      have HS : Hid _ := rot_succ l k n hlt
      generalize l[k + n]?.getD 0 = e at *
      generalize hm : k + n = m at *
      have HM : Hid _ := hm
      clear hm
      go_wp2_with (at_builtin; go_must (refine wpList_pushN rfl _ _ 58 rfl w.heap.size w.heap.size w 108 Tryd.underlying58 Tryd.infoEdge _ _ e (by rfl) (by rfl) hown (by simp; omega) hb (Nat.le_refl _) hb.size ?_); intro v' w1 hown1 hb1 _; clear hown hb hc)
      go_roundw
      case rel => exact ⟨n + 1, by have := HM.out; omega, by have := HM.out; go_num, by rw [HS.out]; exact hown1, hb1⟩
      case measure => simp [intOf]; omega
    · have hfull : (l.drop k).take n = l.drop k := List.take_of_length_le (by simp; omega)
      rw [hfull] at hown
      have HF : Hid (k + n = l.length) := by show k + n = l.length; omega
      generalize k + n = m at *
      go_wp2
      go_loopw [5, 7] (fun v i wr2 => ∃ n : Nat, n ≤ k ∧ i = .int .i64 (n : Nat) ∧ Own wr2 w.heap.size 108 v (l.drop k ++ l.take n) ∧ Below w.heap.size w wr2) (fun _ i _ => k - (intOf i).toNat)
      case atStart => exact ⟨0, by omega, rfl, by simpa using hown, hb⟩
      case round =>
        obtain ⟨n2, hn2, rfl, hown2, hb2⟩ := hrel
        by_cases hlt2 : n2 < k
        · have hc := (hA.kept hb2).at (k := n2) (by omega)
          have HS : Hid _ := take_snoc l n2 (by omega)
          have hlt3 : n2 < l.length := by omega
          generalize l[n2]?.getD 0 = e at *
          go_wp2_with (at_builtin; go_must (refine wpList_pushN rfl _ _ 58 rfl w.heap.size w.heap.size w 108 Tryd.underlying58 Tryd.infoEdge _ _ e (by rfl) (by rfl) hown2 (by simp; omega) hb2 (Nat.le_refl _) hb2.size ?_); intro v' w1 hown1 hb1 _; clear hown2 hb2 hc)
          go_roundw
          case rel => exact ⟨n2 + 1, by omega, by go_num, by rw [HS.out, ← List.append_assoc]; exact hown1, hb1⟩
          case measure => simp [intOf]; omega
        · go_wp2
          go_ret
          have : n2 = k := by omega
          subst this
          exact ⟨_, rfl, by rw [turn_eq l n2 hk]; exact hown2, hb2⟩

set_option maxRecDepth 100000 in
set_option maxHeartbeats 400000 in
theorem comesAhead_any (x y : List Nat) (n b off cap b' off' cap' : Nat) (w : World) (hx : x.length = n) (hy : y.length = n) (hA : Arr w b off x) (hA' : Arr w b' off' y) (hn : n ≤ 1000) :
    Calls Tryd.prog 50 #[.slice (some ⟨b, off, none⟩) n cap, .slice (some ⟨b', off', none⟩) n cap'] w fun r w' => r = .returned (.bool (lexLt x y)) ∧ Below w.heap.size w w' := by
  have HX : Hid (x.length = n) := hx
  have HY : Hid (y.length = n) := hy
  clear hx hy
  go_enter Tryd.func50, Tryd.ntmps50
  go_wp2
  go_loopw [5] (fun i wr => ∃ k : Nat, k ≤ n ∧ i = .int .i64 k ∧ lexLt x y = lexLt (x.drop k) (y.drop k) ∧ Below w.heap.size w wr) (fun i _ => n - (intOf i).toNat)
  case atStart => exact ⟨0, Nat.zero_le _, rfl, by simp, Below.refl _ _⟩
  case round =>
    obtain ⟨k, hk, rfl, hlex, hb⟩ := hrel
    have HL : Hid _ := hlex
    clear hlex
    by_cases hlt : k < n
    · have hc := (hA.kept hb).at (k := k) (by rw [HX.out]; exact hlt)
      have hc' := (hA'.kept hb).at (k := k) (by rw [HY.out]; exact hlt)
      have HS : Hid _ := lexLt_step x y k (by rw [HX.out]; exact hlt) (by rw [HY.out]; exact hlt)
      generalize x[k]?.getD 0 = e at *
      generalize y[k]?.getD 0 = d at *
      by_cases hed : e = d
      · subst hed
        go_wp2
        go_quiet (fail)
        go_wp2
        go_roundw
        case rel => exact ⟨k + 1, by omega, by go_num, by rw [HL.out, HS.out]; simp, below_drewN hb _⟩
        case measure => simp [intOf]; omega
      · have hedI : ((e : Int) == (d : Int)) = false := by simp; omega
        go_wp2
        go_quiet (fail)
        go_wp2
        go_quiet (fail)
        go_wp2
        go_ret
        exact ⟨by rw [HL.out, HS.out]; simp [hed], below_drewN (below_drewN hb _) _⟩
    · go_wp2
      go_ret
      have e1 : lexLt x y = false := by rw [HL.out]; exact lexLt_end x y k (by rw [HX.out]; omega) (by rw [HY.out]; omega)
      rw [e1]
      exact ⟨rfl, hb⟩

set_option maxRecDepth 100000 in
set_option maxHeartbeats 400000 in
theorem firstUnjoined_any (l : List Nat) (b off cap : Nat) (w : World) (hA : Arr w b off l) (hE : ∀ x ∈ l, x < 14) (hl : 0 < l.length) (hl2 : l.length ≤ 1000) :
    Calls Tryd.prog 78 #[.slice (some ⟨b, off, none⟩) l.length cap] w fun r w' => r = .returned (.int .i64 (unj l : Nat)) ∧ w' = w := by
  have h0 : ((l.length : Int) == 0) = false := by rw [beq_eq_false_iff_ne]; omega
  have hlast := hA.at (k := l.length - 1) (by omega)
  have hzero : (0 + l.length - 1) % l.length = l.length - 1 := by rw [Nat.zero_add, Nat.mod_eq_of_lt (by omega)]
  have HZ : Hid _ := hzero
  have hi : ((l.length : Int) - 1).toNat = l.length - 1 := by omega
  clear hzero
  go_enter Tryd.func78, Tryd.ntmps78
  go_wp2
  go_loop [3, 17] (fun a i => ∃ n : Nat, n ≤ l.length ∧ i = .int .i64 n ∧ a = .int .i64 (l[(n + l.length - 1) % l.length]?.getD 0 : Nat) ∧ ∀ j, j < n → jn l j = true) (fun _ i => l.length - (intOf i).toNat)
  case atStart => exact ⟨0, Nat.zero_le _, rfl, by rw [HZ.out], fun j hj => absurd hj (by omega)⟩
  case round =>
    obtain ⟨n, hn, rfl, rfl, hall⟩ := hrel
    have HA : Hid _ := hall
    clear hall
    by_cases hlt : n < l.length
    · have hc := hA.at hlt
      have HJ : Hid (jn l n = (bW (l[n]?.getD 0) == eW (l[(n + l.length - 1) % l.length]?.getD 0))) := rfl
      have HN : Hid (l[(n + 1 + l.length - 1) % l.length]?.getD 0 = l[n]?.getD 0) := by
        have e1 : (n + 1 + l.length - 1) % l.length = n := by rw [show n + 1 + l.length - 1 = n + l.length from by omega, Nat.add_mod_right, Nat.mod_eq_of_lt hlt]
        show _ = _
        rw [e1]
      have he := getD_lt hE n
      have hd := getD_lt hE ((n + l.length - 1) % l.length)
      clear hlast
      generalize l[(n + l.length - 1) % l.length]?.getD 0 = d at *
      generalize l[n]?.getD 0 = e at *
      cases hj : (bW e == eW d)
      · go_wp2_with (go_at_call 92; refine (joins_any e d he hd _).mono ?_; rintro r w1 ⟨rfl, rfl⟩)
        go_ret
        refine ⟨?_, rfl⟩
        have : unj l = n := firstNo_eq _ _ _ hn HA.out (Or.inr (by rw [HJ.out, hj]))
        rw [this]; rfl
      · go_wp2_with (go_at_call 92; refine (joins_any e d he hd _).mono ?_; rintro r w1 ⟨rfl, rfl⟩)
        go_round
        case rel => 
          refine ⟨n + 1, by omega, by go_num, by rw [HN.out], fun j hj2 => ?_⟩
          by_cases hjn : j = n
          · rw [hjn, HJ.out, hj]
          · exact HA.out j (by omega)
        case measure => simp [intOf]; omega
    · clear hlast
      go_wp2
      go_ret
      refine ⟨?_, rfl⟩
      have hnl : n = l.length := by omega
      have : unj l = l.length := firstNo_eq _ _ _ (Nat.le_refl _) (by rw [← hnl]; exact HA.out) (Or.inl rfl)
      rw [this]; rfl

set_option maxRecDepth 100000 in
set_option maxHeartbeats 400000 in
theorem firstLeavingCell_any (l : List Nat) (b off cap : Nat) (w : World) (hA : Arr w b off l) (hE : ∀ x ∈ l, x < 14) (hl2 : l.length ≤ 1000) :
    Calls Tryd.prog 93 #[.slice (some ⟨b, off, none⟩) l.length cap] w fun r w' => r = .returned (.int .i64 (flc l : Nat)) ∧ w' = w := by
  go_enter Tryd.func93, Tryd.ntmps93
  go_wp2
  go_loop [7] (fun i => ∃ n : Nat, n ≤ l.length ∧ i = .int .i64 n ∧ ∀ j, j < n → (!lC (l[j]?.getD 0)) = true) (fun i => l.length - (intOf i).toNat)
  case atStart => exact ⟨0, Nat.zero_le _, rfl, fun j hj => absurd hj (by omega)⟩
  case round =>
    obtain ⟨n, hn, rfl, hall⟩ := hrel
    have HA : Hid _ := hall
    clear hall
    by_cases hlt : n < l.length
    · have hc := hA.at hlt
      have he := getD_lt hE n
      obtain ⟨e, heq⟩ : ∃ e, e = l[n]?.getD 0 := ⟨_, rfl⟩
      rw [← heq] at hc he
      have HQ : Hid _ := heq
      clear heq
      cases hT : lC e
      · go_wp2_with (go_at_call 55; refine (leavesCell_any e he _).mono ?_; rintro r w1 ⟨rfl, rfl⟩)
        go_round
        case rel => 
          refine ⟨n + 1, by omega, by go_num, fun j hj2 => ?_⟩
          by_cases hjn : j = n
          · rw [hjn, ← HQ.out, hT]; rfl
          · exact HA.out j (by omega)
        case measure => simp [intOf]; omega
      · go_wp2_with (go_at_call 55; refine (leavesCell_any e he _).mono ?_; rintro r w1 ⟨rfl, rfl⟩)
        go_ret
        refine ⟨?_, rfl⟩
        have e1 : firstNo (fun i => !lC (l[i]?.getD 0)) l.length = n := firstNo_eq _ _ _ hn HA.out (Or.inr (by show (!lC (l[n]?.getD 0)) = false; rw [← HQ.out, hT]; rfl))
        have : flc l = n := by unfold flc; rw [e1, if_pos hlt]
        rw [this]; rfl
    · go_wp2
      go_ret
      refine ⟨?_, rfl⟩
      have hnl : n = l.length := by omega
      have e1 : firstNo (fun i => !lC (l[i]?.getD 0)) l.length = l.length := firstNo_eq _ _ _ (Nat.le_refl _) (by rw [← hnl]; exact HA.out) (Or.inl rfl)
      have : flc l = 0 := by unfold flc; rw [e1, if_neg (by omega)]
      rw [this]; rfl

set_option maxRecDepth 100000 in
set_option maxHeartbeats 800000 in
theorem mostCellWrites_any (l : List Nat) (b off cap : Nat) (w : World) (hA : Arr w b off l) (hE : ∀ x ∈ l, x < 14) (hl : 0 < l.length) (hl2 : l.length ≤ 1000) :
    Calls Tryd.prog 79 #[.slice (some ⟨b, off, none⟩) l.length cap] w fun r w' => r = .returned (.int .i64 (mcw l : Nat)) ∧ Below w.heap.size w w' := by
  go_enter Tryd.func79, Tryd.ntmps79
  go_wp2_with (go_at_call 93; refine (firstLeavingCell_any l b off cap _ hA hE hl2).mono ?_; rintro r w1 ⟨rfl, rfl⟩)
  refine (rotated_any l b off cap (flc l) _ hA hl2 (flc_le l)).mono ?_
  rintro r w1 ⟨v1, rfl, hown, hb1⟩
  obtain ⟨g1, c1, hv1, hg1, hG1⟩ := hown.shape (by rw [turn_length]; exact hl)
  have HW : Hid (mcw l = (mcwTo (turn l (flc l)) (turn l (flc l)).length).1) := by show _ = _; rw [turn_length]; rfl
  have hEt : ∀ x ∈ turn l (flc l), x < 14 := by
    rw [turn_eq l _ (flc_le l)]
    intro x hx
    rcases List.mem_append.1 hx with h | h
    · exact hE x (List.mem_of_mem_drop h)
    · exact hE x (List.mem_of_mem_take h)
  have hl3 : (turn l (flc l)).length ≤ 1000 := by rw [turn_length]; exact hl2
  generalize turn l (flc l) = t at *
  subst hv1
  clear hown
  go_wp2
  go_loop [5, 6, 16] (fun m v i => ∃ n : Nat, n ≤ t.length ∧ i = .int .i64 n ∧ m = .int .i64 ((mcwTo t n).1 : Nat) ∧ v = .int .i64 ((mcwTo t n).2 : Nat)) (fun _ _ i => t.length - (intOf i).toNat)
  case atStart => exact ⟨0, Nat.zero_le _, rfl, rfl, rfl⟩
  case round =>
    obtain ⟨n, hn, rfl, rfl, rfl⟩ := hrel
    have hle := mcwTo_le t n
    by_cases hlt : n < t.length
    · have hc := hG1.at0 hlt
      have HS : Hid _ := mcwTo_succ t n hlt
      have he := getD_lt hEt n
      generalize t[n]?.getD 0 = e at *
      have hle1 := hle.1
      have hle2 := hle.2
      have HP : Hid (wrOf (mcwTo t n) e = (if lC e then 0 else (mcwTo t n).2) + if eW e then 1 else 0) := rfl
      have HQ : Hid (mcwStep (mcwTo t n) e = (if (mcwTo t n).1 < wrOf (mcwTo t n) e then wrOf (mcwTo t n) e else (mcwTo t n).1, wrOf (mcwTo t n) e)) := rfl
      clear hle
      generalize wrOf (mcwTo t n) e = X at *
      generalize mcwStep (mcwTo t n) e = st at *
      generalize (mcwTo t n).1 = p at *
      generalize (mcwTo t n).2 = q at *
      cases hC : lC e <;> cases hW : eW e
      all_goals
        have hX := HP.out
        simp only [hC, hW, if_true, if_false, Bool.false_eq_true, Nat.zero_add, Nat.add_zero] at hX
        by_cases hcmp : p < X
        all_goals
          subst hX
        all_goals try (exfalso; omega)
        all_goals
          go_wp2_with (first | (go_at_call 55; refine (leavesCell_any e he _).mono ?_; rintro r w1 ⟨rfl, rfl⟩) | (go_at_call 94; refine (endsAtWrite_any e he _).mono ?_; rintro r w1 ⟨rfl, rfl⟩))
          go_round
          case rel => exact ⟨n + 1, by omega, by go_num, by rw [HS.out, HQ.out]; simp [hcmp], by rw [HS.out, HQ.out]; try simp⟩
          case measure => simp [intOf]; omega
    · go_wp2
      go_ret
      have hnl : n = t.length := by omega
      exact ⟨by rw [HW.out, ← hnl]; rfl, hb1⟩

set_option maxRecDepth 100000 in
set_option maxHeartbeats 400000 in
theorem countThreads_any (l : List Nat) (b off cap : Nat) (w : World) (hA : Arr w b off l) (hE : ∀ x ∈ l, x < 14) (hl2 : l.length ≤ 1000) :
    Calls Tryd.prog 67 #[.slice (some ⟨b, off, none⟩) l.length cap] w fun r w' => r = .returned (.int .i64 (l.countP lT : Nat)) ∧ w' = w := by
  go_enter Tryd.func67, Tryd.ntmps67
  go_wp2
  go_loop [3, 8] (fun o i => ∃ n : Nat, n ≤ l.length ∧ i = .int .i64 n ∧ o = .int .i64 ((l.take n).countP lT : Nat)) (fun _ i => l.length - (intOf i).toNat)
  case atStart => exact ⟨0, Nat.zero_le _, rfl, rfl⟩
  case round =>
    obtain ⟨n, hn, rfl, rfl⟩ := hrel
    have h1 := countP_take_le lT l n
    by_cases hlt : n < l.length
    · have hc := hA.at hlt
      have HT : Hid _ := countP_take_succ lT l n hlt
      have he := getD_lt hE n
      generalize l[n]?.getD 0 = e at *
      generalize (l.take n).countP lT = t at *
      cases hT : lT e
      all_goals
        go_wp2_with (go_at_call 54; refine (leavesThread_any e he _).mono ?_; rintro r w1 ⟨rfl, rfl⟩)
        go_round
        case rel => exact ⟨n + 1, by omega, by go_num, by rw [HT.out]; simp [hT]⟩
        case measure => simp [intOf]; omega
    · go_wp2
      go_ret
      have : n = l.length := by omega
      subst this
      simp

set_option maxRecDepth 100000 in
set_option maxHeartbeats 400000 in
theorem countCells_any (l : List Nat) (b off cap : Nat) (w : World) (hA : Arr w b off l) (hE : ∀ x ∈ l, x < 14) (hl2 : l.length ≤ 1000) :
    Calls Tryd.prog 52 #[.slice (some ⟨b, off, none⟩) l.length cap] w fun r w' => r = .returned (.int .i64 (l.countP lC : Nat)) ∧ w' = w := by
  go_enter Tryd.func52, Tryd.ntmps52
  go_wp2
  go_loop [3, 8] (fun o i => ∃ n : Nat, n ≤ l.length ∧ i = .int .i64 n ∧ o = .int .i64 ((l.take n).countP lC : Nat)) (fun _ i => l.length - (intOf i).toNat)
  case atStart => exact ⟨0, Nat.zero_le _, rfl, rfl⟩
  case round =>
    obtain ⟨n, hn, rfl, rfl⟩ := hrel
    have h1 := countP_take_le lC l n
    by_cases hlt : n < l.length
    · have hc := hA.at hlt
      have HT : Hid _ := countP_take_succ lC l n hlt
      have he := getD_lt hE n
      generalize l[n]?.getD 0 = e at *
      generalize (l.take n).countP lC = t at *
      cases hT : lC e
      all_goals
        go_wp2_with (go_at_call 55; refine (leavesCell_any e he _).mono ?_; rintro r w1 ⟨rfl, rfl⟩)
        go_round
        case rel => exact ⟨n + 1, by omega, by go_num, by rw [HT.out]; simp [hT]⟩
        case measure => simp [intOf]; omega
    · go_wp2
      go_ret
      have : n = l.length := by omega
      subst this
      simp

set_option maxRecDepth 100000 in
set_option maxHeartbeats 800000 in
theorem checkEdges_any (l : List Nat) (b off cap : Nat) (w : World) (hA : Arr w b off l) (hE : ∀ x ∈ l, x < 14) (hl : 0 < l.length) (hl2 : l.length ≤ 1000) :
    Calls Tryd.prog 48 #[.slice (some ⟨b, off, none⟩) l.length cap] w fun r w' => r = .returned (.tuple #[.int .i64 ((chk l).1 : Nat), .int .i64 ((chk l).2 : Nat)]) ∧ Below w.heap.size w w' := by
  have HU : Hid (chk l = if unj l < l.length then (3, unj l) else if l.countP lT < 2 then (4, 0) else if l.countP lC < 2 then (5, 0) else if 2 < mcw l then (6, 0) else (0, 0)) := rfl
  have hu2 : unj l ≤ l.length := firstNo_le _ _
  have h1 : l.countP lT ≤ l.length := List.countP_le_length
  have h2 : l.countP lC ≤ l.length := List.countP_le_length
  go_enter Tryd.func48, Tryd.ntmps48
  go_wp2_with fail
  refine (firstUnjoined_any l b off cap _ hA hE hl hl2).mono ?_
  rintro r w1 ⟨rfl, rfl⟩
  by_cases hu : unj l < l.length
  · go_wp2
    go_ret2
    refine ⟨?_, Below.refl _ _⟩
    rw [HU.out, if_pos hu]; rfl
  · go_wp2_with fail
    refine (countThreads_any l b off cap _ hA hE hl2).mono ?_
    rintro r w2 ⟨rfl, rfl⟩
    by_cases ht : l.countP lT < 2
    · go_wp2
      go_ret2
      refine ⟨?_, Below.refl _ _⟩
      rw [HU.out, if_neg hu, if_pos ht]; rfl
    · go_wp2_with fail
      refine (countCells_any l b off cap _ hA hE hl2).mono ?_
      rintro r w3 ⟨rfl, rfl⟩
      by_cases hcc : l.countP lC < 2
      · go_wp2
        go_ret2
        refine ⟨?_, Below.refl _ _⟩
        rw [HU.out, if_neg hu, if_neg ht, if_pos hcc]; rfl
      · go_wp2_with fail
        refine (mostCellWrites_any l b off cap _ hA hE hl hl2).mono ?_
        rintro r w4 ⟨rfl, hb⟩
        by_cases hm : 2 < mcw l
        · go_wp2
          go_ret2
          refine ⟨?_, hb⟩
          rw [HU.out, if_neg hu, if_neg ht, if_neg hcc, if_pos hm]; rfl
        · go_wp2
          go_ret2
          refine ⟨?_, hb⟩
          rw [HU.out, if_neg hu, if_neg ht, if_neg hcc, if_neg hm]; rfl

set_option maxRecDepth 100000 in
set_option maxHeartbeats 400000 in
theorem leastRotation_any (l : List Nat) (b off cap : Nat) (w : World) (hA : Arr w b off l) (hl : 0 < l.length) (hl2 : l.length ≤ 1000) :
    Calls Tryd.prog 25 #[.slice (some ⟨b, off, none⟩) l.length cap] w fun r w' => ∃ v, r = .returned v ∧ Own w' w.heap.size 108 v (leastOf l) ∧ Below w.heap.size w w' := by
  go_enter Tryd.func25, Tryd.ntmps25
  go_wp2_with fail
  refine (rotated_any l b off cap 0 _ hA hl2 (Nat.zero_le _)).mono ?_
  rintro r w1 ⟨v1, rfl, hown, hb1⟩
  rw [turn_zero] at hown
  go_wp2
  go_loopw [3, 4] (fun v i wr => ∃ n : Nat, n + 1 ≤ l.length ∧ i = .int .i64 (n + 1 : Nat) ∧ Own wr w.heap.size 108 v (leastTo l n) ∧ Below w.heap.size w wr) (fun _ i _ => l.length - (intOf i).toNat)
  case atStart => exact ⟨0, hl, rfl, hown, hb1⟩
  case round =>
    obtain ⟨n, hn, rfl, hrow, hb⟩ := hrel
    obtain ⟨g, gc, hgv, hgb, hG⟩ := hrow.shape (by rw [leastTo_length]; exact hl)
    rw [leastTo_length] at hgv
    subst hgv
    by_cases hlt : n + 1 < l.length
    · have hAr := hA.kept hb
      go_wp2_with fail
      refine (rotated_any l b off cap (n + 1) _ hAr hl2 (by omega)).mono ?_
      rintro r w2 ⟨v2, rfl, hown2, hb2⟩
      obtain ⟨g1, c1, hv1, hg1, hG1⟩ := hown2.shape (by rw [turn_length]; exact hl)
      rw [turn_length] at hv1
      subst hv1
      go_wp2_with fail
      refine (comesAhead_any (turn l (n + 1)) (leastTo l n) l.length g1 0 c1 g 0 gc _ (turn_length _ _) (leastTo_length _ _) hG1 (hG.kept hb2) hl2).mono ?_
      rintro r w3 ⟨rfl, hb3⟩
      have hbb : Below w.heap.size w w3 := hb.trans ((hb2.mono hb.size).trans (hb3.mono (Nat.le_trans hb.size hb2.size)))
      have HL : Hid (leastTo l (n + 1) = if lexLt (turn l (n + 1)) (leastTo l n) then turn l (n + 1) else leastTo l n) := rfl
      cases hlex : lexLt (turn l (n + 1)) (leastTo l n)
      · go_wp2
        go_roundw
        case rel => exact ⟨n + 1, by omega, by go_num, by rw [HL.out, hlex]; exact (hrow.kept hb2).kept hb3, hbb⟩
        case measure => simp [intOf]; omega
      · go_wp2
        go_roundw
        case rel => exact ⟨n + 1, by omega, by go_num, by rw [HL.out, hlex]; exact (hown2.kept hb3).rebase hb.size, hbb⟩
        case measure => simp [intOf]; omega
    · go_wp2
      go_ret
      have : l.length - 1 = n := by omega
      exact ⟨_, rfl, by unfold leastOf; rw [this]; exact hrow, hb⟩

end Go.Proofs.YtokfiflflcfidabDoor
