import Derived.Test.YtokfiflflcfidabDoorRows
import Derived.Test.YtokfiflflcfidabDoorPlain
import Derived.Test.YtokfiflflcfidabDoorMem
import Derived.Test.YtokfiflflcfidabDoorPreds
import Derived.WalkKit
import Derived.WalkSpells
import Derived.WalkLawsBesides
import Derived.Deep.QuietTactic
import Derived.BigQuiet
namespace Go.Proofs.YtokfiflflcfidabDoor
open Go.RowKit

theorem Tryd.infoInt : (Tryd.prog.info? 3).map (fun i => (i.zero, i.size, i.bytes)) = some (some (.int .i64 0), 1, 8) := by kernel_rfl

set_option maxRecDepth 100000 in
set_option maxHeartbeats 400000 in
theorem turn_any (l : List Nat) (b off cap k : Nat) (w : World) (hA : Arr w b off l) (hl : 0 < l.length) (hl2 : l.length ≤ 1000) (hk : k ≤ 1000) :
    Calls Tryd.prog 19 #[.slice (some ⟨b, off, none⟩) l.length cap, .int .i64 k] w fun r w' => ∃ v, r = .returned v ∧ Own w' w.heap.size 3 v (turn l k) ∧ Below w.heap.size w w' := by
  go_enter Tryd.func19, Tryd.ntmps19
  go_wp2
  go_loopw [5, 6] (fun v i wr => ∃ n : Nat, n ≤ l.length ∧ i = .int .i64 n ∧ Own wr w.heap.size 3 v (turnTo l k n) ∧ Below w.heap.size w wr) (fun _ i _ => l.length - (intOf i).toNat)
  case atStart => exact ⟨0, Nat.zero_le _, rfl, Own.nil _ _ _, Below.refl _ _⟩
  case round =>
    obtain ⟨n, hn, rfl, hown, hb⟩ := hrel
    by_cases hlt : n < l.length
    · have hm : (k + n) % l.length < l.length := Nat.mod_lt _ hl
      have hc := (hA.kept hb).at hm
      obtain ⟨e, he⟩ : ∃ e, e = l[(k + n) % l.length]?.getD 0 := ⟨_, rfl⟩
      rw [← he] at hc
      have HE : Hid (e = l[(k + n) % l.length]?.getD 0) := he
      obtain ⟨m, hmm⟩ : ∃ m, m = (k + n) % l.length := ⟨_, rfl⟩
      rw [← hmm] at hc hm
      have hmi : ((k : Int) + (n : Int)) % (l.length : Int) = (m : Int) := by rw [hmm]; simp
      clear he hmm
      go_wp2_with (at_builtin; go_must (refine wpList_pushN rfl _ _ 25 rfl w.heap.size w.heap.size w 3 Tryd.underlying25 Tryd.infoInt _ _ e (by rfl) (by rfl) hown (by simp [turnTo]; omega) hb (Nat.le_refl _) hb.size ?_); intro v' w1 hown1 hb1 _; clear hown hb hc)
      go_roundw
      case rel => exact ⟨n + 1, by omega, by go_num, by rw [turnTo_succ, ← HE.out]; exact hown1, hb1⟩
      case measure => simp [intOf]; omega
    · go_wp2
      go_ret
      have : n = l.length := by omega
      subst this
      exact ⟨_, rfl, hown, hb⟩

set_option maxRecDepth 100000 in
set_option maxHeartbeats 400000 in
theorem count_any (l : List Nat) (b off cap : Nat) (w : World) (hA : Arr w b off l) (hE : ∀ x ∈ l, x < 14) (hl2 : l.length ≤ 1000) :
    Calls Tryd.prog 29 #[.slice (some ⟨b, off, none⟩) l.length cap] w fun r w' => r = .returned (.tuple #[.int .i64 (l.countP lT : Nat), .int .i64 (l.countP lC : Nat)]) ∧ w' = w := by
  go_enter Tryd.func29, Tryd.ntmps29
  go_wp2
  go_loop [4, 5, 6] (fun o m i => ∃ n : Nat, n ≤ l.length ∧ i = .int .i64 n ∧ o = .int .i64 ((l.take n).countP lT : Nat) ∧ m = .int .i64 ((l.take n).countP lC : Nat)) (fun _ _ i => l.length - (intOf i).toNat)
  case atStart => exact ⟨0, Nat.zero_le _, rfl, rfl, rfl⟩
  case round =>
    obtain ⟨n, hn, rfl, rfl, rfl⟩ := hrel
    have h1 := countP_take_le lT l n
    have h2 := countP_take_le lC l n
    by_cases hlt : n < l.length
    · have hc := hA.at hlt
      have HT : Hid _ := countP_take_succ lT l n hlt
      have HC : Hid _ := countP_take_succ lC l n hlt
      have he := getD_lt hE n
      generalize l[n]?.getD 0 = e at *
      generalize (l.take n).countP lT = t at *
      generalize (l.take n).countP lC = c at *
      cases hT : lT e <;> cases hC : lC e
      all_goals
        go_wp2_with (first | (go_at_call 58; refine (outer_any e he _).mono ?_; rintro r w1 ⟨rfl, rfl⟩) | (go_at_call 42; refine (moving_any e he _).mono ?_; rintro r w1 ⟨rfl, rfl⟩))
        go_round
        case rel => exact ⟨n + 1, by omega, by go_num, by rw [HT.out]; simp [hT], by rw [HC.out]; simp [hC]⟩
        case measure => simp [intOf]; omega
    · go_wp2
      go_ret2
      have : n = l.length := by omega
      subst this
      simp

set_option maxRecDepth 100000 in
set_option maxHeartbeats 400000 in
theorem less_any (x y : List Nat) (n b off cap b' off' cap' : Nat) (w : World) (hx : x.length = n) (hy : y.length = n) (hA : Arr w b off x) (hA' : Arr w b' off' y) (hn : n ≤ 1000) :
    Calls Tryd.prog 59 #[.slice (some ⟨b, off, none⟩) n cap, .slice (some ⟨b', off', none⟩) n cap'] w fun r w' => r = .returned (.bool (lexLt x y)) ∧ Below w.heap.size w w' := by
  have HX : Hid (x.length = n) := hx
  have HY : Hid (y.length = n) := hy
  clear hx hy
  go_enter Tryd.func59, Tryd.ntmps59
  go_wp2
  go_loopw [5] (fun i wr => ∃ k : Nat, k ≤ n ∧ i = .int .i64 k ∧ lexLt x y = lexLt (x.drop k) (y.drop k) ∧ Below w.heap.size w wr) (fun i _ => n - (intOf i).toNat)
  case atStart => exact ⟨0, Nat.zero_le _, rfl, by simp, Below.refl _ _⟩
  case round =>
    obtain ⟨k, hk, rfl, hlex, hb⟩ := hrel
    have HL : Hid _ := hlex
    clear hlex
    by_cases hlt : k < n
    · have hc := (hA.kept hb).at (k := k) (by rw [HX.out]; exact hlt)
      have hc' := (hA'.kept hb).at (k := k) (by rw [HY.out]; exact hlt)
      have HS : Hid _ := lexLt_step x y k (by rw [HX.out]; exact hlt) (by rw [HY.out]; exact hlt)
      generalize x[k]?.getD 0 = e at *
      generalize y[k]?.getD 0 = d at *
      by_cases hed : e = d
      · subst hed
        go_wp2
        go_quiet (fail)
        go_wp2
        go_roundw
        case rel => exact ⟨k + 1, by omega, by go_num, by rw [HL.out, HS.out]; simp, below_drewN hb _⟩
        case measure => simp [intOf]; omega
      · have hedI : ((e : Int) == (d : Int)) = false := by simp; omega
        go_wp2
        go_quiet (fail)
        go_wp2
        go_quiet (fail)
        go_wp2
        go_ret
        exact ⟨by rw [HL.out, HS.out]; simp [hed], below_drewN (below_drewN hb _) _⟩
    · go_wp2
      go_ret
      have e1 : lexLt x y = false := by rw [HL.out]; exact lexLt_end x y k (by rw [HX.out]; omega) (by rw [HY.out]; omega)
      rw [e1]
      exact ⟨by simp, hb⟩

/-- what a reading slice of a list is -/
def IsRow (w : World) (v : Value) (n : Nat) (l : List Nat) : Prop := ∃ g off cap, v = .slice (some ⟨g, off, none⟩) n cap ∧ l.length = n ∧ Arr w g off l

theorem IsRow.kept {w w' : World} {v : Value} {n : Nat} {l : List Nat} (h : IsRow w v n l) (hb : Below w.heap.size w w') : IsRow w' v n l := by
  obtain ⟨g, off, cap, rfl, hn, hA⟩ := h
  exact ⟨g, off, cap, rfl, hn, hA.kept hb⟩

set_option maxRecDepth 100000 in
set_option maxHeartbeats 400000 in
theorem least_any (l : List Nat) (b off cap : Nat) (w : World) (hA : Arr w b off l) (hl : 0 < l.length) (hl2 : l.length ≤ 1000) :
    Calls Tryd.prog 30 #[.slice (some ⟨b, off, none⟩) l.length cap] w fun r w' => ∃ v, r = .returned v ∧ IsRow w' v l.length (leastOf l) ∧ Below w.heap.size w w' := by
  go_enter Tryd.func30, Tryd.ntmps30
  go_wp2
  go_loopw [3, 4] (fun v i wr => ∃ n : Nat, n + 1 ≤ l.length ∧ i = .int .i64 (n + 1 : Nat) ∧ IsRow wr v l.length (leastTo l n) ∧ Below w.heap.size w wr) (fun _ i _ => l.length - (intOf i).toNat)
  case atStart => exact ⟨0, hl, rfl, ⟨b, off, cap, rfl, rfl, hA⟩, Below.refl _ _⟩
  case round =>
    obtain ⟨n, hn, rfl, hrow, hb⟩ := hrel
    obtain ⟨g, go, gc, rfl, hgl, hG⟩ := hrow
    have HG : Hid _ := hgl
    clear hgl
    by_cases hlt : n + 1 < l.length
    · have hAr := hA.kept hb
      go_wp2_with fail
      refine (turn_any l b off cap (n + 1) _ hAr hl hl2 (by omega)).mono ?_
      rintro r w1 ⟨v1, rfl, hown, hb1⟩
      obtain ⟨g1, c1, hv1, hg1, hG1⟩ := hown.shape (by rw [turn_length]; exact hl)
      rw [turn_length] at hv1
      subst hv1
      go_wp2_with fail
      refine (less_any (turn l (n + 1)) (leastTo l n) l.length g1 0 c1 g go gc _ (turn_length _ _) HG.out hG1 (hG.kept hb1) hl2).mono ?_
      rintro r w2 ⟨rfl, hb2⟩
      have hbb : Below w.heap.size w w2 := hb.trans ((hb1.mono hb.size).trans (hb2.mono (Nat.le_trans hb.size hb1.size)))
      have HL : Hid (leastTo l (n + 1) = if lexLt (turn l (n + 1)) (leastTo l n) then turn l (n + 1) else leastTo l n) := rfl
      cases hlex : lexLt (turn l (n + 1)) (leastTo l n)
      · go_wp2
        go_roundw
        case rel => exact ⟨n + 1, by omega, by go_num, by rw [HL.out, hlex]; exact ⟨g, go, gc, rfl, HG.out, (hG.kept hb1).kept hb2⟩, hbb⟩
        case measure => simp [intOf]; omega
      · go_wp2
        go_roundw
        case rel => exact ⟨n + 1, by omega, by go_num, by rw [HL.out, hlex]; exact ⟨g1, 0, c1, rfl, turn_length _ _, hG1.kept hb2⟩, hbb⟩
        case measure => simp [intOf]; omega
    · go_wp2
      go_ret
      have : l.length - 1 = n := by omega
      exact ⟨_, rfl, by unfold leastOf; rw [this]; exact ⟨g, go, gc, rfl, HG.out, hG⟩, hb⟩

set_option maxRecDepth 100000 in
set_option maxHeartbeats 400000 in
theorem behindOuter_any (l : List Nat) (b off cap : Nat) (w : World) (hA : Arr w b off l) (hE : ∀ x ∈ l, x < 14) (hl : 0 < l.length) (hl2 : l.length ≤ 1000) :
    Calls Tryd.prog 60 #[.slice (some ⟨b, off, none⟩) l.length cap] w fun r w' => ∃ v, r = .returned v ∧ Own w' w.heap.size 3 v (turn l (outTo l l.length % l.length)) ∧ Below w.heap.size w w' := by
  go_enter Tryd.func60, Tryd.ntmps60
  go_wp2
  go_loop [3, 4] (fun k i => ∃ n : Nat, n ≤ l.length ∧ i = .int .i64 n ∧ k = .int .i64 (outTo l n : Nat)) (fun _ i => l.length - (intOf i).toNat)
  case atStart => exact ⟨0, Nat.zero_le _, rfl, rfl⟩
  case round =>
    obtain ⟨n, hn, rfl, rfl⟩ := hrel
    have h1 := outTo_le l n
    by_cases hlt : n < l.length
    · have hc := hA.at hlt
      have HT : Hid (outTo l (n + 1) = if lT (l[n]?.getD 0) then n + 1 else outTo l n) := rfl
      have he := getD_lt hE n
      generalize l[n]?.getD 0 = e at *
      generalize outTo l n = t at *
      cases hT : lT e
      all_goals
        go_wp2_with (go_at_call 58; refine (outer_any e he _).mono ?_; rintro r w1 ⟨rfl, rfl⟩)
        go_round
        case rel => exact ⟨n + 1, by omega, by go_num, by rw [HT.out, hT]; simp⟩
        case measure => simp [intOf]; omega
    · have : n = l.length := by omega
      subst this
      obtain ⟨m, hm⟩ : ∃ m, m = outTo l l.length % l.length := ⟨_, rfl⟩
      have hmi : ((outTo l l.length : Nat) : Int) % ((l.length : Nat) : Int) = (m : Int) := by rw [hm]; simp
      have hml : m < l.length := by rw [hm]; exact Nat.mod_lt _ hl
      have HM : Hid _ := hm
      clear hm
      go_wp2_with fail
      refine (turn_any l b off cap m _ hA hl hl2 (by omega)).mono ?_
      rintro r w1 ⟨v1, rfl, hown, hb1⟩
      go_wp2
      go_ret
      exact ⟨_, rfl, by rw [← HM.out]; exact hown, hb1⟩

end Go.Proofs.YtokfiflflcfidabDoor
