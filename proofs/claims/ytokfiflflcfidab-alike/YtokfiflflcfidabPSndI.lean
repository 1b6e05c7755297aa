import Derived.Test.YtokfiflflcfidabRows
import Derived.Test.YtokfiflflcfidabSndI
import Derived.WalkKit
import Derived.WalkSpells
import Derived.WalkLawsBesides
import Derived.RegionTactic
import Derived.BigRegion
import Derived.Deep.QuietTactic
import Derived.BigQuiet
namespace Go.Proofs.Ytokfiflflcfidab
open Go.RowKit

def c16 (n : Int) : Bool := decide (0 ≤ n) && decide (n < 16)
def c9 (n : Int) : Bool := decide (0 ≤ n) && decide (n ≤ 9)
theorem sndI_eq (x : Q4) : sndI x = ((c16 x.b && c16 x.c && c9 x.d) && ((x.a == 1 && x.b == 0) || (x.a == 2 && x.d == 0) || (x.a == 3 && x.b == 0 && x.c == 0 && x.d == 0))) := by
  unfold sndI c16 c9
  congr 1
  simp only [Bool.decide_and, Bool.and_assoc]
theorem sndK_eq (n : Nat) (x : Q4) : sndK n x = ((c9 x.d && c16 x.b && c16 x.c) && ((x.a == -1 && x.b == 0) || (decide (0 ≤ x.a) && decide (x.a < (n : Int)) && x.c == 0))) := by
  unfold sndK c16 c9
  congr 1
  simp only [Bool.decide_and, Bool.and_assoc]

set_option maxHeartbeats 400000 in
theorem isCell_is (n : Int) (b : Bool) (h : c16 n = b) (w : World) :
    Calls Try.prog 46 #[.int .i64 n] w fun r w' => r = .returned (.bool b) ∧ w' = w := by
  by_cases h1 : n < 0
  · have h2 : b = false := by rw [← h]; unfold c16; rw [decide_eq_false (show ¬ 0 ≤ n by omega)]; rfl
    clear h
    subst h2
    go_enter Try.func46, Try.ntmps46
    go_wp2
    go_ret
    exact ⟨rfl, rfl⟩
  · by_cases h3 : 16 ≤ n
    · have h2 : b = false := by rw [← h]; unfold c16; rw [decide_eq_false (show ¬ n < 16 by omega)]; simp
      have h4 : ¬ (n < 16) := by omega
      clear h
      subst h2
      go_enter Try.func46, Try.ntmps46
      go_wp2
      go_ret
      exact ⟨rfl, rfl⟩
    · have h2 : b = true := by rw [← h]; unfold c16; rw [decide_eq_true (show n < 16 by omega), decide_eq_true (show 0 ≤ n by omega)]; rfl
      clear h
      subst h2
      go_enter Try.func46, Try.ntmps46
      go_wp2
      go_ret
      exact ⟨rfl, rfl⟩

set_option maxHeartbeats 400000 in
theorem isReg_is (n : Int) (b : Bool) (h : c16 n = b) (w : World) :
    Calls Try.prog 44 #[.int .i64 n] w fun r w' => r = .returned (.bool b) ∧ w' = w := by
  by_cases h1 : n < 0
  · have h2 : b = false := by rw [← h]; unfold c16; rw [decide_eq_false (show ¬ 0 ≤ n by omega)]; rfl
    clear h
    subst h2
    go_enter Try.func44, Try.ntmps44
    go_wp2
    go_ret
    exact ⟨rfl, rfl⟩
  · by_cases h3 : 16 ≤ n
    · have h2 : b = false := by rw [← h]; unfold c16; rw [decide_eq_false (show ¬ n < 16 by omega)]; simp
      have h4 : ¬ (n < 16) := by omega
      clear h
      subst h2
      go_enter Try.func44, Try.ntmps44
      go_wp2
      go_ret
      exact ⟨rfl, rfl⟩
    · have h2 : b = true := by rw [← h]; unfold c16; rw [decide_eq_true (show n < 16 by omega), decide_eq_true (show 0 ≤ n by omega)]; rfl
      clear h
      subst h2
      go_enter Try.func44, Try.ntmps44
      go_wp2
      go_ret
      exact ⟨rfl, rfl⟩

set_option maxHeartbeats 400000 in
theorem isVal_is (n : Int) (b : Bool) (h : c9 n = b) (w : World) :
    Calls Try.prog 47 #[.int .i64 n] w fun r w' => r = .returned (.bool b) ∧ w' = w := by
  by_cases h1 : n < 0
  · have h2 : b = false := by rw [← h]; unfold c9; rw [decide_eq_false (show ¬ 0 ≤ n by omega)]; rfl
    clear h
    subst h2
    go_enter Try.func47, Try.ntmps47
    go_wp2
    go_ret
    exact ⟨rfl, rfl⟩
  · by_cases h3 : 9 < n
    · have h2 : b = false := by rw [← h]; unfold c9; rw [decide_eq_false (show ¬ n ≤ 9 by omega)]; simp
      have h4 : ¬ (n ≤ 9) := by omega
      clear h
      subst h2
      go_enter Try.func47, Try.ntmps47
      go_wp2
      go_ret
      exact ⟨rfl, rfl⟩
    · have h2 : b = true := by rw [← h]; unfold c9; rw [decide_eq_true (show n ≤ 9 by omega), decide_eq_true (show 0 ≤ n by omega)]; rfl
      clear h
      subst h2
      go_enter Try.func47, Try.ntmps47
      go_wp2
      go_ret
      exact ⟨rfl, rfl⟩

set_option maxRecDepth 100000 in
set_option maxHeartbeats 1600000 in
theorem insIsSound_any (x : Q4) (w : World) :
    Calls Try.prog 37 #[.agg #[.int .i64 x.a, .int .i64 x.b, .int .i64 x.c, .int .i64 x.d]] w fun r w' => r = .returned (.bool (sndI x)) ∧ Below w.heap.size w w' := by
  obtain ⟨a, b, c, d⟩ := x
  have fin : ∀ v : Bool, sndI ⟨a, b, c, d⟩ = v → ∀ w', Below w.heap.size w w' → (Ending.returned (.bool v) = .returned (.bool (sndI ⟨a, b, c, d⟩)) ∧ Below w.heap.size w w') :=
    fun v hv w' h => ⟨by rw [hv], h⟩
  have FIN : Hid _ := fin
  clear fin
  dsimp only
  cases hc : c16 c
  · have HV : Hid (sndI ⟨a, b, c, d⟩ = false) := by show _ = _; rw [sndI_eq]; dsimp only; rw [hc]; simp
    go_enter Try.func37, Try.ntmps37
    go_wp2_with (first | (go_at_call 46; refine Calls.mono (isCell_is c _ hc _) ?_; rintro r w9 ⟨rfl, rfl⟩) | (go_at_call 44; refine Calls.mono (isReg_is b _ hb _) ?_; rintro r w9 ⟨rfl, rfl⟩) | (go_at_call 47; refine Calls.mono (isVal_is d _ hd _) ?_; rintro r w9 ⟨rfl, rfl⟩))
    go_ret
    exact FIN.out _ HV.out _ (by first | exact (Below.refl _ _).alloc (Nat.le_refl _) _ | exact below_drewN ((Below.refl _ _).alloc (Nat.le_refl _) _) _)
  · skip
    cases hb : c16 b
    · have HV : Hid (sndI ⟨a, b, c, d⟩ = false) := by show _ = _; rw [sndI_eq]; dsimp only; rw [hb]; simp
      go_enter Try.func37, Try.ntmps37
      go_wp2_with (first | (go_at_call 46; refine Calls.mono (isCell_is c _ hc _) ?_; rintro r w9 ⟨rfl, rfl⟩) | (go_at_call 44; refine Calls.mono (isReg_is b _ hb _) ?_; rintro r w9 ⟨rfl, rfl⟩) | (go_at_call 47; refine Calls.mono (isVal_is d _ hd _) ?_; rintro r w9 ⟨rfl, rfl⟩))
      go_ret
      exact FIN.out _ HV.out _ (by first | exact (Below.refl _ _).alloc (Nat.le_refl _) _ | exact below_drewN ((Below.refl _ _).alloc (Nat.le_refl _) _) _)
    · skip
      cases hd : c9 d
      · have HV : Hid (sndI ⟨a, b, c, d⟩ = false) := by show _ = _; rw [sndI_eq]; dsimp only; rw [hd]; simp
        go_enter Try.func37, Try.ntmps37
        go_wp2_with (first | (go_at_call 46; refine Calls.mono (isCell_is c _ hc _) ?_; rintro r w9 ⟨rfl, rfl⟩) | (go_at_call 44; refine Calls.mono (isReg_is b _ hb _) ?_; rintro r w9 ⟨rfl, rfl⟩) | (go_at_call 47; refine Calls.mono (isVal_is d _ hd _) ?_; rintro r w9 ⟨rfl, rfl⟩))
        go_ret
        exact FIN.out _ HV.out _ (by first | exact (Below.refl _ _).alloc (Nat.le_refl _) _ | exact below_drewN ((Below.refl _ _).alloc (Nat.le_refl _) _) _)
      · skip
        cases h1 : (a == 1)
        · skip
          cases h2 : (a == 2)
          · skip
            cases h3 : (a == 3)
            · skip
              have HV : Hid (sndI ⟨a, b, c, d⟩ = false) := by show _ = _; rw [sndI_eq]; dsimp only; rw [hb, hc, hd]; simp [h1, h2, h3]
              go_enter Try.func37, Try.ntmps37
              go_wp2_with (first | (go_at_call 46; refine Calls.mono (isCell_is c _ hc _) ?_; rintro r w9 ⟨rfl, rfl⟩) | (go_at_call 44; refine Calls.mono (isReg_is b _ hb _) ?_; rintro r w9 ⟨rfl, rfl⟩) | (go_at_call 47; refine Calls.mono (isVal_is d _ hd _) ?_; rintro r w9 ⟨rfl, rfl⟩))
              go_ret
              exact FIN.out _ HV.out _ (by first | exact (Below.refl _ _).alloc (Nat.le_refl _) _ | exact below_drewN ((Below.refl _ _).alloc (Nat.le_refl _) _) _)
            · skip
              cases hb0 : (b == 0)
              · skip
                have HV : Hid (sndI ⟨a, b, c, d⟩ = false) := by show _ = _; rw [sndI_eq]; dsimp only; rw [hb, hc, hd]; simp [h1, h2, h3, hb0]
                go_enter Try.func37, Try.ntmps37
                go_wp2_with (first | (go_at_call 46; refine Calls.mono (isCell_is c _ hc _) ?_; rintro r w9 ⟨rfl, rfl⟩) | (go_at_call 44; refine Calls.mono (isReg_is b _ hb _) ?_; rintro r w9 ⟨rfl, rfl⟩) | (go_at_call 47; refine Calls.mono (isVal_is d _ hd _) ?_; rintro r w9 ⟨rfl, rfl⟩))
                go_ret
                exact FIN.out _ HV.out _ (by first | exact (Below.refl _ _).alloc (Nat.le_refl _) _ | exact below_drewN ((Below.refl _ _).alloc (Nat.le_refl _) _) _)
              · skip
                cases hc0 : (c == 0)
                · skip
                  have HV : Hid (sndI ⟨a, b, c, d⟩ = false) := by show _ = _; rw [sndI_eq]; dsimp only; rw [hb, hc, hd]; simp [h1, h2, h3, hb0, hc0]
                  go_enter Try.func37, Try.ntmps37
                  go_wp2_with (first | (go_at_call 46; refine Calls.mono (isCell_is c _ hc _) ?_; rintro r w9 ⟨rfl, rfl⟩) | (go_at_call 44; refine Calls.mono (isReg_is b _ hb _) ?_; rintro r w9 ⟨rfl, rfl⟩) | (go_at_call 47; refine Calls.mono (isVal_is d _ hd _) ?_; rintro r w9 ⟨rfl, rfl⟩))
                  go_ret
                  exact FIN.out _ HV.out _ (by first | exact (Below.refl _ _).alloc (Nat.le_refl _) _ | exact below_drewN ((Below.refl _ _).alloc (Nat.le_refl _) _) _)
                · skip
                  cases hd0 : (d == 0)
                  · skip
                    have HV : Hid (sndI ⟨a, b, c, d⟩ = false) := by show _ = _; rw [sndI_eq]; dsimp only; rw [hb, hc, hd]; simp [h1, h2, h3, hb0, hc0, hd0]
                    go_enter Try.func37, Try.ntmps37
                    go_wp2_with (first | (go_at_call 46; refine Calls.mono (isCell_is c _ hc _) ?_; rintro r w9 ⟨rfl, rfl⟩) | (go_at_call 44; refine Calls.mono (isReg_is b _ hb _) ?_; rintro r w9 ⟨rfl, rfl⟩) | (go_at_call 47; refine Calls.mono (isVal_is d _ hd _) ?_; rintro r w9 ⟨rfl, rfl⟩))
                    go_ret
                    exact FIN.out _ HV.out _ (by first | exact (Below.refl _ _).alloc (Nat.le_refl _) _ | exact below_drewN ((Below.refl _ _).alloc (Nat.le_refl _) _) _)
                  · skip
                    have HV : Hid (sndI ⟨a, b, c, d⟩ = true) := by show _ = _; rw [sndI_eq]; dsimp only; rw [hb, hc, hd]; simp [h1, h2, h3, hb0, hc0, hd0]
                    go_enter Try.func37, Try.ntmps37
                    go_wp2_with (first | (go_at_call 46; refine Calls.mono (isCell_is c _ hc _) ?_; rintro r w9 ⟨rfl, rfl⟩) | (go_at_call 44; refine Calls.mono (isReg_is b _ hb _) ?_; rintro r w9 ⟨rfl, rfl⟩) | (go_at_call 47; refine Calls.mono (isVal_is d _ hd _) ?_; rintro r w9 ⟨rfl, rfl⟩))
                    go_ret
                    exact FIN.out _ HV.out _ (by first | exact (Below.refl _ _).alloc (Nat.le_refl _) _ | exact below_drewN ((Below.refl _ _).alloc (Nat.le_refl _) _) _)
          · skip
            cases hd0 : (d == 0)
            · skip
              have HV : Hid (sndI ⟨a, b, c, d⟩ = false) := by show _ = _; rw [sndI_eq]; dsimp only; rw [hb, hc, hd]; simp [hd0, show a = 2 from eq_of_beq h2]
              go_enter Try.func37, Try.ntmps37
              go_wp2_with (first | (go_at_call 46; refine Calls.mono (isCell_is c _ hc _) ?_; rintro r w9 ⟨rfl, rfl⟩) | (go_at_call 44; refine Calls.mono (isReg_is b _ hb _) ?_; rintro r w9 ⟨rfl, rfl⟩) | (go_at_call 47; refine Calls.mono (isVal_is d _ hd _) ?_; rintro r w9 ⟨rfl, rfl⟩))
              go_ret
              exact FIN.out _ HV.out _ (by first | exact (Below.refl _ _).alloc (Nat.le_refl _) _ | exact below_drewN ((Below.refl _ _).alloc (Nat.le_refl _) _) _)
            · skip
              have HV : Hid (sndI ⟨a, b, c, d⟩ = true) := by show _ = _; rw [sndI_eq]; dsimp only; rw [hb, hc, hd]; simp [h1, h2, hd0]
              go_enter Try.func37, Try.ntmps37
              go_wp2_with (first | (go_at_call 46; refine Calls.mono (isCell_is c _ hc _) ?_; rintro r w9 ⟨rfl, rfl⟩) | (go_at_call 44; refine Calls.mono (isReg_is b _ hb _) ?_; rintro r w9 ⟨rfl, rfl⟩) | (go_at_call 47; refine Calls.mono (isVal_is d _ hd _) ?_; rintro r w9 ⟨rfl, rfl⟩))
              go_ret
              exact FIN.out _ HV.out _ (by first | exact (Below.refl _ _).alloc (Nat.le_refl _) _ | exact below_drewN ((Below.refl _ _).alloc (Nat.le_refl _) _) _)
        · skip
          cases hb0 : (b == 0)
          · skip
            have HV : Hid (sndI ⟨a, b, c, d⟩ = false) := by show _ = _; rw [sndI_eq]; dsimp only; rw [hb, hc, hd]; simp [hb0, show a = 1 from eq_of_beq h1]
            go_enter Try.func37, Try.ntmps37
            go_wp2_with (first | (go_at_call 46; refine Calls.mono (isCell_is c _ hc _) ?_; rintro r w9 ⟨rfl, rfl⟩) | (go_at_call 44; refine Calls.mono (isReg_is b _ hb _) ?_; rintro r w9 ⟨rfl, rfl⟩) | (go_at_call 47; refine Calls.mono (isVal_is d _ hd _) ?_; rintro r w9 ⟨rfl, rfl⟩))
            go_ret
            exact FIN.out _ HV.out _ (by first | exact (Below.refl _ _).alloc (Nat.le_refl _) _ | exact below_drewN ((Below.refl _ _).alloc (Nat.le_refl _) _) _)
          · skip
            have HV : Hid (sndI ⟨a, b, c, d⟩ = true) := by show _ = _; rw [sndI_eq]; dsimp only; rw [hb, hc, hd]; simp [h1, hb0]
            go_enter Try.func37, Try.ntmps37
            go_wp2_with (first | (go_at_call 46; refine Calls.mono (isCell_is c _ hc _) ?_; rintro r w9 ⟨rfl, rfl⟩) | (go_at_call 44; refine Calls.mono (isReg_is b _ hb _) ?_; rintro r w9 ⟨rfl, rfl⟩) | (go_at_call 47; refine Calls.mono (isVal_is d _ hd _) ?_; rintro r w9 ⟨rfl, rfl⟩))
            go_ret
            exact FIN.out _ HV.out _ (by first | exact (Below.refl _ _).alloc (Nat.le_refl _) _ | exact below_drewN ((Below.refl _ _).alloc (Nat.le_refl _) _) _)

set_option maxRecDepth 100000 in
set_option maxHeartbeats 1600000 in
theorem claimIsSound_any (x : Q4) (n : Nat) (w : World) :
    Calls Try.prog 38 #[.agg #[.int .i64 x.a, .int .i64 x.b, .int .i64 x.c, .int .i64 x.d], .int .i64 n] w fun r w' => r = .returned (.bool (sndK n x)) ∧ Below w.heap.size w w' := by
  obtain ⟨a, b, c, d⟩ := x
  have fin : ∀ v : Bool, sndK n ⟨a, b, c, d⟩ = v → ∀ w', Below w.heap.size w w' → (Ending.returned (.bool v) = .returned (.bool (sndK n ⟨a, b, c, d⟩)) ∧ Below w.heap.size w w') :=
    fun v hv w' h => ⟨by rw [hv], h⟩
  have FIN : Hid _ := fin
  clear fin
  dsimp only
  cases hc : c16 c
  · have HV : Hid (sndK n ⟨a, b, c, d⟩ = false) := by show _ = _; rw [sndK_eq]; dsimp only; rw [hc]; simp
    go_enter Try.func38, Try.ntmps38
    go_wp2_with (first | (go_at_call 46; refine Calls.mono (isCell_is c _ hc _) ?_; rintro r w9 ⟨rfl, rfl⟩) | (go_at_call 44; refine Calls.mono (isReg_is b _ hb _) ?_; rintro r w9 ⟨rfl, rfl⟩) | (go_at_call 47; refine Calls.mono (isVal_is d _ hd _) ?_; rintro r w9 ⟨rfl, rfl⟩))
    go_ret
    exact FIN.out _ HV.out _ (by first | exact (Below.refl _ _).alloc (Nat.le_refl _) _ | exact below_drewN ((Below.refl _ _).alloc (Nat.le_refl _) _) _)
  · skip
    cases hb : c16 b
    · have HV : Hid (sndK n ⟨a, b, c, d⟩ = false) := by show _ = _; rw [sndK_eq]; dsimp only; rw [hb]; simp
      go_enter Try.func38, Try.ntmps38
      go_wp2_with (first | (go_at_call 46; refine Calls.mono (isCell_is c _ hc _) ?_; rintro r w9 ⟨rfl, rfl⟩) | (go_at_call 44; refine Calls.mono (isReg_is b _ hb _) ?_; rintro r w9 ⟨rfl, rfl⟩) | (go_at_call 47; refine Calls.mono (isVal_is d _ hd _) ?_; rintro r w9 ⟨rfl, rfl⟩))
      go_ret
      exact FIN.out _ HV.out _ (by first | exact (Below.refl _ _).alloc (Nat.le_refl _) _ | exact below_drewN ((Below.refl _ _).alloc (Nat.le_refl _) _) _)
    · skip
      cases hd : c9 d
      · have HV : Hid (sndK n ⟨a, b, c, d⟩ = false) := by show _ = _; rw [sndK_eq]; dsimp only; rw [hd]; simp
        go_enter Try.func38, Try.ntmps38
        go_wp2_with (first | (go_at_call 46; refine Calls.mono (isCell_is c _ hc _) ?_; rintro r w9 ⟨rfl, rfl⟩) | (go_at_call 44; refine Calls.mono (isReg_is b _ hb _) ?_; rintro r w9 ⟨rfl, rfl⟩) | (go_at_call 47; refine Calls.mono (isVal_is d _ hd _) ?_; rintro r w9 ⟨rfl, rfl⟩))
        go_ret
        exact FIN.out _ HV.out _ (by first | exact (Below.refl _ _).alloc (Nat.le_refl _) _ | exact below_drewN ((Below.refl _ _).alloc (Nat.le_refl _) _) _)
      · skip
        cases h1 : (a == -1)
        · skip
          by_cases ha : a < 0
          · have hk : ¬ (0 ≤ a) := by omega
            have HV : Hid (sndK n ⟨a, b, c, d⟩ = false) := by show _ = _; rw [sndK_eq]; dsimp only; rw [hb, hc, hd]; simp [h1, hk]
            go_enter Try.func38, Try.ntmps38
            go_wp2_with (first | (go_at_call 46; refine Calls.mono (isCell_is c _ hc _) ?_; rintro r w9 ⟨rfl, rfl⟩) | (go_at_call 44; refine Calls.mono (isReg_is b _ hb _) ?_; rintro r w9 ⟨rfl, rfl⟩) | (go_at_call 47; refine Calls.mono (isVal_is d _ hd _) ?_; rintro r w9 ⟨rfl, rfl⟩))
            go_ret
            exact FIN.out _ HV.out _ (by first | exact (Below.refl _ _).alloc (Nat.le_refl _) _ | exact below_drewN ((Below.refl _ _).alloc (Nat.le_refl _) _) _)
          · have hk : 0 ≤ a := by omega
            by_cases hn : a < (n : Int)
            · skip
              cases hc0 : (c == 0)
              · skip
                have HV : Hid (sndK n ⟨a, b, c, d⟩ = false) := by show _ = _; rw [sndK_eq]; dsimp only; rw [hb, hc, hd]; simp [h1, hk, hn, hc0]
                go_enter Try.func38, Try.ntmps38
                go_wp2_with (first | (go_at_call 46; refine Calls.mono (isCell_is c _ hc _) ?_; rintro r w9 ⟨rfl, rfl⟩) | (go_at_call 44; refine Calls.mono (isReg_is b _ hb _) ?_; rintro r w9 ⟨rfl, rfl⟩) | (go_at_call 47; refine Calls.mono (isVal_is d _ hd _) ?_; rintro r w9 ⟨rfl, rfl⟩))
                go_ret
                exact FIN.out _ HV.out _ (by first | exact (Below.refl _ _).alloc (Nat.le_refl _) _ | exact below_drewN ((Below.refl _ _).alloc (Nat.le_refl _) _) _)
              · skip
                have HV : Hid (sndK n ⟨a, b, c, d⟩ = true) := by show _ = _; rw [sndK_eq]; dsimp only; rw [hb, hc, hd]; simp [h1, hk, hn, hc0]
                go_enter Try.func38, Try.ntmps38
                go_wp2_with (first | (go_at_call 46; refine Calls.mono (isCell_is c _ hc _) ?_; rintro r w9 ⟨rfl, rfl⟩) | (go_at_call 44; refine Calls.mono (isReg_is b _ hb _) ?_; rintro r w9 ⟨rfl, rfl⟩) | (go_at_call 47; refine Calls.mono (isVal_is d _ hd _) ?_; rintro r w9 ⟨rfl, rfl⟩))
                go_ret
                exact FIN.out _ HV.out _ (by first | exact (Below.refl _ _).alloc (Nat.le_refl _) _ | exact below_drewN ((Below.refl _ _).alloc (Nat.le_refl _) _) _)
            · skip
              have HV : Hid (sndK n ⟨a, b, c, d⟩ = false) := by show _ = _; rw [sndK_eq]; dsimp only; rw [hb, hc, hd]; simp [h1, hk, hn]
              go_enter Try.func38, Try.ntmps38
              go_wp2_with (first | (go_at_call 46; refine Calls.mono (isCell_is c _ hc _) ?_; rintro r w9 ⟨rfl, rfl⟩) | (go_at_call 44; refine Calls.mono (isReg_is b _ hb _) ?_; rintro r w9 ⟨rfl, rfl⟩) | (go_at_call 47; refine Calls.mono (isVal_is d _ hd _) ?_; rintro r w9 ⟨rfl, rfl⟩))
              go_ret
              exact FIN.out _ HV.out _ (by first | exact (Below.refl _ _).alloc (Nat.le_refl _) _ | exact below_drewN ((Below.refl _ _).alloc (Nat.le_refl _) _) _)
        · skip
          cases hb0 : (b == 0)
          · skip
            have HV : Hid (sndK n ⟨a, b, c, d⟩ = false) := by show _ = _; rw [sndK_eq]; dsimp only; rw [hb, hc, hd]; simp [hb0, show a = -1 from eq_of_beq h1]
            go_enter Try.func38, Try.ntmps38
            go_wp2_with (first | (go_at_call 46; refine Calls.mono (isCell_is c _ hc _) ?_; rintro r w9 ⟨rfl, rfl⟩) | (go_at_call 44; refine Calls.mono (isReg_is b _ hb _) ?_; rintro r w9 ⟨rfl, rfl⟩) | (go_at_call 47; refine Calls.mono (isVal_is d _ hd _) ?_; rintro r w9 ⟨rfl, rfl⟩))
            go_ret
            exact FIN.out _ HV.out _ (by first | exact (Below.refl _ _).alloc (Nat.le_refl _) _ | exact below_drewN ((Below.refl _ _).alloc (Nat.le_refl _) _) _)
          · skip
            have HV : Hid (sndK n ⟨a, b, c, d⟩ = true) := by show _ = _; rw [sndK_eq]; dsimp only; rw [hb, hc, hd]; simp [h1, hb0]
            go_enter Try.func38, Try.ntmps38
            go_wp2_with (first | (go_at_call 46; refine Calls.mono (isCell_is c _ hc _) ?_; rintro r w9 ⟨rfl, rfl⟩) | (go_at_call 44; refine Calls.mono (isReg_is b _ hb _) ?_; rintro r w9 ⟨rfl, rfl⟩) | (go_at_call 47; refine Calls.mono (isVal_is d _ hd _) ?_; rintro r w9 ⟨rfl, rfl⟩))
            go_ret
            exact FIN.out _ HV.out _ (by first | exact (Below.refl _ _).alloc (Nat.le_refl _) _ | exact below_drewN ((Below.refl _ _).alloc (Nat.le_refl _) _) _)

end Go.Proofs.Ytokfiflflcfidab
