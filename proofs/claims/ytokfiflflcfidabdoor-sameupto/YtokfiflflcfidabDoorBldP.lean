import Derived.Test.YtokfiflflcfidabDoorRows
import Derived.Test.YtokfiflflcfidabDoorPlain
import Derived.Test.YtokfiflflcfidabDoorMem
import Derived.Test.YtokfiflflcfidabDoorPreds
import Derived.Test.YtokfiflflcfidabDoorPredsB
import Derived.Test.YtokfiflflcfidabDoorProgA
import Derived.Test.YtokfiflflcfidabDoorMemQ
import Derived.Test.YtokfiflflcfidabDoorBldM
import Derived.WalkKit
import Derived.WalkSpells
import Derived.WalkLawsBesides
import Derived.RegionTactic
import Derived.BigRegion
import Derived.Deep.RegionWith
import Derived.Deep.RegionLaw
import Derived.Deep.QuietTactic
import Derived.BigQuiet
namespace Go.Proofs.YtokfiflflcfidabDoor
open Go.RowKit

theorem Tryd.infoPEvent : (Tryd.prog.info? 110).map (fun i => (i.zero, i.size, i.bytes)) = some (some (.agg #[.int .i64 0, .int .i64 0, .int .i64 0, .int .i64 0, .int .i64 0]), 5, 40) := by kernel_rfl

set_option maxRecDepth 100000 in
set_option maxHeartbeats 400000 in
theorem isWrite_any (a o t c r : Nat) (ho : o < 14) (w : World) :
    Calls Tryd.prog 53 #[.agg #[.int .i64 a, .int .i64 o, .int .i64 t, .int .i64 c, .int .i64 r]] w fun v w' => v = .returned (.bool (bW o)) ∧ Below w.heap.size w w' := by
  go_enter Tryd.func53, Tryd.ntmps53
  go_wp2_with (go_at_call 80; refine (beginsAtWrite_any o ho _).mono ?_; rintro r w1 ⟨rfl, rfl⟩)
  go_ret
  exact ⟨rfl, (Below.refl _ _).alloc (Nat.le_refl _) _⟩

set_option maxRecDepth 100000 in
set_option maxHeartbeats 800000 in
theorem isClaimed_any (a o t c r : Nat) (ha : a < 14) (ho : o < 14) (w : World) :
    Calls Tryd.prog 86 #[.agg #[.int .i64 a, .int .i64 o, .int .i64 t, .int .i64 c, .int .i64 r]] w fun v w' => v = .returned (.bool (!bW o && (isRf a || isFr o))) ∧ Below w.heap.size w w' := by
  have hb0 : Below w.heap.size w (w.alloc (.cells #[.int .i64 a, .int .i64 o, .int .i64 t, .int .i64 c, .int .i64 r] 110)) := (Below.refl _ _).alloc (Nat.le_refl _) _
  go_enter Tryd.func86, Tryd.ntmps86
  go_wp2_with fail
  refine (isWrite_any a o t c r ho _).mono ?_
  rintro r' w1 ⟨rfl, hb1⟩
  have e0 := (hb1.cell (p := ⟨w.heap.size, 0, none⟩) (by simp)).trans (show (w.alloc (.cells #[.int .i64 a, .int .i64 o, .int .i64 t, .int .i64 c, .int .i64 r] 110)).cell? ⟨w.heap.size, 0, none⟩ = some (.int .i64 a) by simp)
  have e1 := (hb1.cell (p := ⟨w.heap.size, 1, none⟩) (by simp)).trans (show (w.alloc (.cells #[.int .i64 a, .int .i64 o, .int .i64 t, .int .i64 c, .int .i64 r] 110)).cell? ⟨w.heap.size, 1, none⟩ = some (.int .i64 o) by simp)
  have hbb : Below w.heap.size w w1 := hb0.trans (hb1.mono (by simp))
  have HB : Hid _ := hbb
  clear hb0 hb1 hbb
  cases hw : bW o
  · cases hr : isRf a
    · go_wp2_with (first | (go_at_call 96; refine (isRfP_any a ha _).mono ?_; rintro r w2 ⟨rfl, rfl⟩; rw [hr]) | (go_at_call 97; refine (isFrP_any o ho _).mono ?_; rintro r w2 ⟨rfl, rfl⟩))
      go_ret
      exact ⟨by simp [hw, hr], HB.out⟩
    · go_wp2_with (first | (go_at_call 96; refine (isRfP_any a ha _).mono ?_; rintro r w2 ⟨rfl, rfl⟩; rw [hr]) | (go_at_call 97; refine (isFrP_any o ho _).mono ?_; rintro r w2 ⟨rfl, rfl⟩))
      go_ret
      exact ⟨by simp [hw, hr], HB.out⟩
  · go_wp2
    go_ret
    exact ⟨by simp [hw], HB.out⟩

set_option maxRecDepth 100000 in
set_option maxHeartbeats 400000 in
theorem firstOut_any (l : List Nat) (b off cap : Nat) (w : World) (hA : Arr w b off l) (hE : ∀ x ∈ l, x < 14) (hl2 : l.length ≤ 1000) :
    Calls Tryd.prog 51 #[.slice (some ⟨b, off, none⟩) l.length cap] w fun r w' => r = .returned (.int .i64 (outTo l l.length : Nat)) ∧ w' = w := by
  go_enter Tryd.func51, Tryd.ntmps51
  go_wp2
  go_loop [3, 8] (fun k i => ∃ n : Nat, n ≤ l.length ∧ i = .int .i64 n ∧ k = .int .i64 (outTo l n : Nat)) (fun _ i => l.length - (intOf i).toNat)
  case atStart => exact ⟨0, Nat.zero_le _, rfl, rfl⟩
  case round =>
    obtain ⟨n, hn, rfl, rfl⟩ := hrel
    by_cases hlt : n < l.length
    · have hc := hA.at hlt
      have HT : Hid (outTo l (n + 1) = if lT (l[n]?.getD 0) then n + 1 else outTo l n) := rfl
      have he := getD_lt hE n
      generalize l[n]?.getD 0 = e at *
      generalize outTo l n = t at *
      cases hT : lT e
      all_goals
        go_wp2_with (go_at_call 54; refine (leavesThread_any e he _).mono ?_; rintro r w1 ⟨rfl, rfl⟩)
        go_round
        case rel => exact ⟨n + 1, by omega, by go_num, by rw [HT.out, hT]; simp⟩
        case measure => simp [intOf]; omega
    · have : n = l.length := by omega
      subst this
      go_wp2
      go_ret
      exact ⟨rfl, rfl⟩

theorem ev5_new (w : World) (T : Nat) (a b c d e : Value) (us : List Value) (hus : us = [a, b, c, d, e]) (j : Nat) (u : Value) (h : us[j]? = some u) : (w.alloc (.cells #[a, b, c, d, e] T)).cell? ((⟨w.heap.size, 0, none⟩ : Addr).add j) = some u := by
  subst hus
  rw [addr_add0]
  match j, h with
  | 0, h => simp at h; subst h; simp
  | 1, h => simp at h; subst h; simp
  | 2, h => simp at h; subst h; simp
  | 3, h => simp at h; subst h; simp
  | 4, h => simp at h; subst h; simp

/-- 'events = append(events, one)' -/
theorem wpList_push5 {P : Program} {wr : World} {ops : Array Oper} {rest : List Oper} {o : Oper} {a : Act} {Q : Exit → Act → World → Prop} (hgd : o.guard = none) (s x : Operand) (t : TypeId)
    (ho : o.op = .call { callee := .builtin .append, args := #[s, x], argTypes := #[t, t] })
    (base : Nat) (T : TypeId) (ht : P.underlying t = some (.slice T)) (hinfo : (P.info? T).map (fun i => (i.zero, i.size, i.bytes)) = some (some (.agg #[.int .i64 0, .int .i64 0, .int .i64 0, .int .i64 0, .int .i64 0]), 5, 40))
    (v : Value) (L : List Nat) (n : Nat) (v0 v1 v2 v3 v4 : Value) (hc : pevCells L n = [v0, v1, v2, v3, v4]) (hs : a.eval s = v) (hx : a.eval x = .slice (some ⟨wr.heap.size, 0, none⟩) 1 1)
    (hown : Own5 wr base T v L n) (hlen : n ≤ 1000) (hbase : base ≤ wr.heap.size)
    (h : ∀ v' w', Own5 w' base T v' L (n + 1) → Grew wr w' v v' → wpList P ops Q rest (a.put o.dst v') w') :
    wpList P ops Q (o :: rest) a (wr.alloc (.cells #[v0, v1, v2, v3, v4] T)) := by
  refine wpList_pushK hgd s x t ho base T (.agg #[.int .i64 0, .int .i64 0, .int .i64 0, .int .i64 0, .int .i64 0]) 5 40 ht hinfo rfl (by decide) v n (pevTo L n) #[v0, v1, v2, v3, v4] (pevCells L n) (ev5_new wr T v0 v1 v2 v3 v4 _ hc) rfl (pevCells_one L n) hs hx hown (by omega) (by unfold maxLen; omega) hbase ?_
  intro v' w' h1 h2
  refine h v' w' ?_ h2
  unfold Own5
  rw [pevTo_succ]
  exact h1

set_option maxRecDepth 100000 in
set_option maxHeartbeats 3200000 in
theorem cycleEvents_any (base : List Nat) (b off cap : Nat) (w : World) (hA : Arr w b off base) (hE : ∀ x ∈ base, x < 14) (hl : 0 < base.length) (hl2 : base.length ≤ 64) (hC : 0 < base.countP lC) :
    Calls Tryd.prog 26 #[.slice (some ⟨b, off, none⟩) base.length cap] w fun r w' => ∃ v, r = .returned v ∧ Own5 w' w.heap.size 110 v (turn base (outTo base base.length % base.length)) base.length ∧ Below w.heap.size w w' := by
  rw [turn_mod base _ (outTo_le base base.length)]
  have hEl : ∀ x ∈ turn base (outTo base base.length), x < 14 := by
    rw [turn_eq base _ (outTo_le base base.length)]
    intro x hx
    rcases List.mem_append.1 hx with h | h
    · exact hE x (List.mem_of_mem_drop h)
    · exact hE x (List.mem_of_mem_take h)
  have hCl : (turn base (outTo base base.length)).countP lC = base.countP lC := by
    rw [turn_eq base _ (outTo_le base base.length), List.countP_append, Nat.add_comm, ← List.countP_append, List.take_append_drop]
  have hll : (turn base (outTo base base.length)).length = base.length := turn_length _ _
  go_enter Tryd.func26, Tryd.ntmps26
  go_wp2_with fail
  refine (firstOut_any base b off cap _ hA hE (by omega)).mono ?_
  rintro r w1 ⟨rfl, rfl⟩
  go_wp2_with fail
  refine (rotated_any base b off cap (outTo base base.length) _ hA (by omega) (outTo_le _ _)).mono ?_
  rintro r w2 ⟨v1, rfl, hown, hb1⟩
  generalize hKq : outTo base base.length = K at *
  have HKQ : Hid _ := hKq
  clear hKq
  obtain ⟨g1, c1, hv1, hg1, hG1⟩ := hown.shape (by rw [turn_length]; exact hl)
  subst hv1
  clear hown
  rw [← hll]
  rw [← hll] at hl hl2
  rw [← hCl] at hC
  have HLN : Hid _ := hll
  clear hll hCl hE hA
  generalize hLq : turn base K = L at *
  have HLQ : Hid _ := hLq
  clear hLq
  have h0 : ((L.length : Int) == 0) = false := by rw [beq_eq_false_iff_ne]; omega
  have hlast := hG1.at0 (k := L.length - 1) (by omega)
  have hli : ((L.length : Int) - 1).toNat = L.length - 1 := by omega
  have HLST : Hid (L[(0 + L.length - 1) % L.length]?.getD 0 = L[L.length - 1]?.getD 0) := by show _ = _; rw [Nat.zero_add, Nat.mod_eq_of_lt (by omega)]
  go_wp2_with fail
  refine (countCells_any L g1 0 c1 _ hG1 hEl (by omega)).mono ?_
  rintro r w3 ⟨rfl, rfl⟩
  have hCle : L.countP lC ≤ L.length := List.countP_le_length
  go_wp2
  go_loopw [5, 6, 8, 9, 10, 32] (fun v a t c r i wr => ∃ n : Nat, n ≤ L.length ∧ i = .int .i64 n ∧ a = .int .i64 ((L[(n + L.length - 1) % L.length]?.getD 0 : Nat) : Int) ∧ t = .int .i64 ((thrOf L n : Nat) : Int) ∧ c = .int .i64 ((cellOf L n : Nat) : Int) ∧ r = .int .i64 ((regOf L n : Nat) : Int) ∧ Own5 wr w3.heap.size 110 v L n ∧ Below w3.heap.size w3 wr) (fun _ _ _ _ _ i _ => L.length - (intOf i).toNat)
  case atStart => exact ⟨0, Nat.zero_le _, rfl, by rw [HLST.out], rfl, by simp [cellOf, cntC], rfl, Own5.nil _ _ _ _, Below.refl _ _⟩
  case round =>
    clear hlast
    obtain ⟨n, hn, rfl, rfl, rfl, rfl, rfl, hown, hb2⟩ := hrel
    by_cases hlt : n < L.length
    · have hc := (hG1.kept hb2).at0 hlt
      have he := getD_lt hEl n
      have ha := getD_lt hEl ((n + L.length - 1) % L.length)
      have HN : Hid (L[(n + 1 + L.length - 1) % L.length]?.getD 0 = L[n]?.getD 0) := by
        show _ = _
        rw [show n + 1 + L.length - 1 = n + L.length from by omega, Nat.add_mod_right, Nat.mod_eq_of_lt hlt]
      have HT : Hid _ := thr_succ L n hlt
      have HC : Hid _ := cell_succ L hC n hlt
      have HR : Hid _ := reg_succ L n hlt
      have HPC : Hid (pevCells L n = [.int .i64 ((L[(n + L.length - 1) % L.length]?.getD 0 : Nat) : Int), .int .i64 ((L[n]?.getD 0 : Nat) : Int), .int .i64 ((thrOf L n : Nat) : Int), .int .i64 ((cellOf L n : Nat) : Int), .int .i64 (((if bW (L[n]?.getD 0) then 0 else regOf L n : Nat)) : Int)]) := rfl
      have HKD : Hid (kd L n = bW (L[n]?.getD 0)) := rfl
      have ht1 : thrOf L n ≤ n := Nat.le_trans List.countP_le_length (List.length_take_le _ _)
      have hc1 : cellOf L n < L.countP lC := Nat.mod_lt _ hC
      have hr1 := reg_le L n
      have hbs := hb2.size
      have HO : Hid _ := hown
      have HB2 : Hid _ := hb2
      clear hown hb2
      rw [HKD.out] at HR
      generalize L[(n + L.length - 1) % L.length]?.getD 0 = a at *
      generalize L[n]?.getD 0 = e at *
      generalize thrOf L n = t at *
      generalize cellOf L n = c at *
      generalize regOf L n = rg at *
      generalize L.countP lC = C at *
      have hcC : ((c : Int) == (C : Int)) = false := by rw [beq_eq_false_iff_ne]; omega
      go_wp2_with fail
      refine (isWrite_any a e t c 0 he _).mono ?_
      rintro r w4 ⟨rfl, hb4⟩
      have hO : w4.heap[wr.heap.size]? = some (.cells #[.int .i64 a, .int .i64 e, .int .i64 t, .int .i64 c, .int .i64 0] 110 (0, 0)) := (hb4.block _ (by simp)).trans (heap_alloc_new wr _)
      have o0 : w4.cell? ⟨wr.heap.size, 0, none⟩ = some (.int .i64 a) := by rw [cell_of_row _ _ 0 _ _ _ hO]; rfl
      have o1 : w4.cell? ⟨wr.heap.size, 1, none⟩ = some (.int .i64 e) := by rw [cell_of_row _ _ 1 _ _ _ hO]; rfl
      have o2 : w4.cell? ⟨wr.heap.size, 2, none⟩ = some (.int .i64 t) := by rw [cell_of_row _ _ 2 _ _ _ hO]; rfl
      have o3 : w4.cell? ⟨wr.heap.size, 3, none⟩ = some (.int .i64 c) := by rw [cell_of_row _ _ 3 _ _ _ hO]; rfl
      have o4 : w4.cell? ⟨wr.heap.size, 4, none⟩ = some (.int .i64 0) := by rw [cell_of_row _ _ 4 _ _ _ hO]; rfl
      have o5 : w4.frozen? ⟨wr.heap.size, 4, none⟩ = false := frozen_of_row _ _ 4 _ _ hO
      have hw4 : Below wr.heap.size wr w4 := ((Below.refl wr.heap.size wr).alloc (Nat.le_refl _) _).trans (hb4.mono (by simp))
      have hsz4 : wr.heap.size < w4.heap.size := (Array.getElem?_eq_some_iff.1 hO).1
      have HW4 : Hid _ := hw4
      have HW5 : Hid (Below wr.heap.size wr (w4.setCell ⟨wr.heap.size, 4, none⟩ (.int .i64 rg))) := hw4.setCell (by dsimp only; omega) _
      have hsz5 : (w4.setCell ⟨wr.heap.size, 4, none⟩ (.int .i64 rg)).heap.size = w4.heap.size := by simp [World.setCell]
      clear hO hb4 hw4 hc
      cases hk : bW e
      · rw [hk] at HPC HR
        have HPC2 : Hid (pevCells L n = [.int .i64 (a : Int), .int .i64 (e : Int), .int .i64 (t : Int), .int .i64 (c : Int), .int .i64 (rg : Int)]) := HPC.out
        clear HPC
        cases hT : lT e <;> cases hCC : lC e
        all_goals by_cases hwrap : c + 1 = C
        all_goals
          have hwI : (((c : Int) + 1) == (C : Int)) = decide (c + 1 = C) := by rw [Bool.eq_iff_iff, beq_iff_eq, decide_eq_true_iff]; omega
          first | rw [decide_eq_true hwrap] at hwI | rw [decide_eq_false hwrap] at hwI
          go_wp2_with (first | (go_at_call 54; refine (leavesThread_any e he _).mono ?_; rintro r w6 ⟨rfl, rfl⟩; rw [hT]) | (go_at_call 55; refine (leavesCell_any e he _).mono ?_; rintro r w6 ⟨rfl, rfl⟩; rw [hCC]) | (at_builtin; go_must (refine wpList_push5 rfl _ _ 62 rfl w3.heap.size 110 Tryd.underlying62 Tryd.infoPEvent _ L n _ _ _ _ _ HPC2.out (by rfl) (by simp [Act.eval]) (ownsRow_kept HO.out HW5.out) (by omega) (by rw [hsz5]; omega) ?_); intro v' w7 hown7 hg7; have HO7 : Hid _ := hown7; have HB7 : Hid (Below w3.heap.size w3 w7) := hg7.below (HB2.out.trans (HW5.out.mono hbs)) (by rw [hsz5]; omega) (ownsRow_kept HO.out HW5.out); clear hown7 hg7 o0 o1 o2 o3 o4 o5))
          go_roundw
          case rel => exact ⟨n + 1, by omega, by go_num, by rw [HN.out], by rw [HT.out, hT]; simp [b1], by rw [HC.out, hCC]; simp [hwrap], by rw [HR.out, hT]; simp [b1], HO7.out, HB7.out⟩
          case measure => simp [intOf]; omega
      · rw [hk] at HPC HR
        have HPC2 : Hid (pevCells L n = [.int .i64 (a : Int), .int .i64 (e : Int), .int .i64 (t : Int), .int .i64 (c : Int), .int .i64 0]) := HPC.out
        clear HPC
        cases hT : lT e <;> cases hCC : lC e
        all_goals by_cases hwrap : c + 1 = C
        all_goals
          have hwI : (((c : Int) + 1) == (C : Int)) = decide (c + 1 = C) := by rw [Bool.eq_iff_iff, beq_iff_eq, decide_eq_true_iff]; omega
          first | rw [decide_eq_true hwrap] at hwI | rw [decide_eq_false hwrap] at hwI
          go_wp2_with (first | (go_at_call 54; refine (leavesThread_any e he _).mono ?_; rintro r w6 ⟨rfl, rfl⟩; rw [hT]) | (go_at_call 55; refine (leavesCell_any e he _).mono ?_; rintro r w6 ⟨rfl, rfl⟩; rw [hCC]) | (at_builtin; go_must (refine wpList_push5 rfl _ _ 62 rfl w3.heap.size 110 Tryd.underlying62 Tryd.infoPEvent _ L n _ _ _ _ _ HPC2.out (by rfl) (by rfl) (ownsRow_kept HO.out HW4.out) (by omega) (by omega) ?_); intro v' w7 hown7 hg7; have HO7 : Hid _ := hown7; have HB7 : Hid (Below w3.heap.size w3 w7) := hg7.below (HB2.out.trans (HW4.out.mono hbs)) (by omega) (ownsRow_kept HO.out HW4.out); clear hown7 hg7 o0 o1 o2 o3 o4 o5))
          go_roundw
          case rel => exact ⟨n + 1, by omega, by go_num, by rw [HN.out], by rw [HT.out, hT]; simp [b1], by rw [HC.out, hCC]; simp [hwrap], by rw [HR.out, hT]; simp [b1], HO7.out, HB7.out⟩
          case measure => simp [intOf]; omega
    · go_wp2
      go_ret
      have hnl : n = L.length := by omega
      subst hnl
      have h7 : Own5 wr w1.heap.size 110 u5 L L.length := ownsRow_rebase hown hb1.size
      exact ⟨_, rfl, by rw [HKQ.out, HLQ.out, ← HLN.out]; exact h7, hb1.trans (hb2.mono hb1.size)⟩

end Go.Proofs.YtokfiflflcfidabDoor
