import Derived.Test.YtokfiflflcfidabRows
import Derived.Test.YtokfiflflcfidabPlain
import Derived.Test.YtokfiflflcfidabMem
import Derived.Test.YtokfiflflcfidabMemQ
import Derived.WalkKit
import Derived.WalkSpells
import Derived.WalkLawsBesides
import Derived.RegionTactic
import Derived.BigRegion
import Derived.Deep.QuietTactic
import Derived.BigQuiet
namespace Go.Proofs.Ytokfiflflcfidab
open Go.RowKit

/-- a sound instruction -/
def sndI (x : Q4) : Bool := decide (0 ≤ x.b ∧ x.b < 16 ∧ 0 ≤ x.c ∧ x.c < 16 ∧ 0 ≤ x.d ∧ x.d ≤ 9) && ((x.a == 1 && x.b == 0) || (x.a == 2 && x.d == 0) || (x.a == 3 && x.b == 0 && x.c == 0 && x.d == 0))
/-- a sound claim over n threads -/
def sndK (n : Nat) (x : Q4) : Bool := decide (0 ≤ x.d ∧ x.d ≤ 9 ∧ 0 ≤ x.b ∧ x.b < 16 ∧ 0 ≤ x.c ∧ x.c < 16) && ((x.a == -1 && x.b == 0) || (decide (0 ≤ x.a) && decide (x.a < (n : Int)) && x.c == 0))

set_option maxRecDepth 100000 in
set_option maxHeartbeats 800000 in
theorem soundIns_any (x : Q4) (w : World) :
    Calls Try.prog 18 #[.agg #[.int .i64 x.a, .int .i64 x.b, .int .i64 x.c, .int .i64 x.d]] w fun r w' => r = .returned (.bool (sndI x)) ∧ Below w.heap.size w w' := by
  obtain ⟨a, b, c, d⟩ := x
  have fin : ∀ v : Bool, sndI ⟨a, b, c, d⟩ = v → (Ending.returned (.bool v) = .returned (.bool (sndI ⟨a, b, c, d⟩)) ∧ Below w.heap.size w (w.alloc (.cells #[.int .i64 a, .int .i64 b, .int .i64 c, .int .i64 d] 44))) :=
    fun v hv => ⟨by rw [hv], (Below.refl _ _).alloc (Nat.le_refl _) _⟩
  have FIN : Hid _ := fin
  clear fin
  dsimp only
  by_cases h1 : b < 0
  · have HV : Hid (sndI ⟨a, b, c, d⟩ = false) := by show _ = _; simp [sndI]; omega
    go_enter Try.func18, Try.ntmps18
    go_wp2
    go_ret
    exact FIN.out _ HV.out
  by_cases h2 : 16 ≤ b
  · have HV : Hid (sndI ⟨a, b, c, d⟩ = false) := by show _ = _; simp [sndI]; omega
    go_enter Try.func18, Try.ntmps18
    go_wp2
    go_ret
    exact FIN.out _ HV.out
  by_cases h3 : c < 0
  · have HV : Hid (sndI ⟨a, b, c, d⟩ = false) := by show _ = _; simp [sndI]; omega
    go_enter Try.func18, Try.ntmps18
    go_wp2
    go_ret
    exact FIN.out _ HV.out
  by_cases h4 : 16 ≤ c
  · have HV : Hid (sndI ⟨a, b, c, d⟩ = false) := by show _ = _; simp [sndI]; omega
    go_enter Try.func18, Try.ntmps18
    go_wp2
    go_ret
    exact FIN.out _ HV.out
  by_cases h5 : d < 0
  · have HV : Hid (sndI ⟨a, b, c, d⟩ = false) := by show _ = _; simp [sndI]; omega
    go_enter Try.func18, Try.ntmps18
    go_wp2
    go_ret
    exact FIN.out _ HV.out
  by_cases h6 : 9 < d
  · have HV : Hid (sndI ⟨a, b, c, d⟩ = false) := by show _ = _; simp [sndI]; omega
    go_enter Try.func18, Try.ntmps18
    go_wp2
    go_ret
    exact FIN.out _ HV.out
  have h1' : 0 ≤ b := by omega
  have h2' : b < 16 := by omega
  have h3' : 0 ≤ c := by omega
  have h4' : c < 16 := by omega
  have h5' : 0 ≤ d := by omega
  have h6' : d ≤ 9 := by omega
  have HB : Hid (decide (0 ≤ b ∧ b < 16 ∧ 0 ≤ c ∧ c < 16 ∧ 0 ≤ d ∧ d ≤ 9) = true) := by show _ = _; simp; omega
  by_cases a1 : a = 1
  · subst a1
    by_cases hb : b = 0
    · subst hb
      have HV : Hid (sndI ⟨1, 0, c, d⟩ = true) := by show _ = _; unfold sndI; dsimp only; rw [HB.out]; simp
      go_enter Try.func18, Try.ntmps18
      go_wp2
      go_ret
      exact FIN.out _ HV.out
    · have hbI : (b == 0) = false := by rw [beq_eq_false_iff_ne]; exact hb
      have HV : Hid (sndI ⟨1, b, c, d⟩ = false) := by show _ = _; unfold sndI; dsimp only; rw [HB.out, hbI]; simp
      go_enter Try.func18, Try.ntmps18
      go_wp2
      go_ret
      exact FIN.out _ HV.out
  · have a1I : (a == 1) = false := by rw [beq_eq_false_iff_ne]; exact a1
    by_cases a2 : a = 2
    · subst a2
      by_cases hd : d = 0
      · subst hd
        have HV : Hid (sndI ⟨2, b, c, 0⟩ = true) := by show _ = _; unfold sndI; dsimp only; rw [HB.out]; simp
        go_enter Try.func18, Try.ntmps18
        go_wp2
        go_ret
        exact FIN.out _ HV.out
      · have hdI : (d == 0) = false := by rw [beq_eq_false_iff_ne]; exact hd
        have HV : Hid (sndI ⟨2, b, c, d⟩ = false) := by show _ = _; unfold sndI; dsimp only; rw [HB.out, hdI]; simp
        go_enter Try.func18, Try.ntmps18
        go_wp2
        go_ret
        exact FIN.out _ HV.out
    · have a2I : (a == 2) = false := by rw [beq_eq_false_iff_ne]; exact a2
      by_cases a3 : a = 3
      · subst a3
        by_cases hb : b = 0
        · by_cases hc : c = 0
          · by_cases hd : d = 0
            · subst hb
              subst hc
              subst hd
              go_enter Try.func18, Try.ntmps18
              go_wp2
              go_ret
              exact FIN.out _ (by decide)
            · subst hb
              subst hc
              have hdI : (d == 0) = false := by rw [beq_eq_false_iff_ne]; exact hd
              have HV : Hid (sndI ⟨3, 0, 0, d⟩ = false) := by show _ = _; unfold sndI; dsimp only; rw [hdI]; simp
              go_enter Try.func18, Try.ntmps18
              go_wp2
              go_ret
              exact FIN.out _ HV.out
          · subst hb
            have hcI : (c == 0) = false := by rw [beq_eq_false_iff_ne]; exact hc
            have HV : Hid (sndI ⟨3, 0, c, d⟩ = false) := by show _ = _; unfold sndI; dsimp only; rw [hcI]; simp
            go_enter Try.func18, Try.ntmps18
            go_wp2
            go_ret
            exact FIN.out _ HV.out
        · have hbI : (b == 0) = false := by rw [beq_eq_false_iff_ne]; exact hb
          have HV : Hid (sndI ⟨3, b, c, d⟩ = false) := by show _ = _; unfold sndI; dsimp only; rw [hbI]; simp
          go_enter Try.func18, Try.ntmps18
          go_wp2
          go_ret
          exact FIN.out _ HV.out
      · have a3I : (a == 3) = false := by rw [beq_eq_false_iff_ne]; exact a3
        have HV : Hid (sndI ⟨a, b, c, d⟩ = false) := by show _ = _; unfold sndI; dsimp only; rw [a1I, a2I, a3I]; simp
        go_enter Try.func18, Try.ntmps18
        go_wp2
        go_ret
        exact FIN.out _ HV.out

set_option maxRecDepth 100000 in
set_option maxHeartbeats 800000 in
theorem soundClaim_any (x : Q4) (n : Nat) (w : World) :
    Calls Try.prog 19 #[.agg #[.int .i64 x.a, .int .i64 x.b, .int .i64 x.c, .int .i64 x.d], .int .i64 n] w fun r w' => r = .returned (.bool (sndK n x)) ∧ Below w.heap.size w w' := by
  obtain ⟨a, b, c, d⟩ := x
  have fin : ∀ v : Bool, sndK n ⟨a, b, c, d⟩ = v → (Ending.returned (.bool v) = .returned (.bool (sndK n ⟨a, b, c, d⟩)) ∧ Below w.heap.size w (w.alloc (.cells #[.int .i64 a, .int .i64 b, .int .i64 c, .int .i64 d] 55))) :=
    fun v hv => ⟨by rw [hv], (Below.refl _ _).alloc (Nat.le_refl _) _⟩
  have FIN : Hid _ := fin
  clear fin
  dsimp only
  by_cases h1 : d < 0
  · have HV : Hid (sndK n ⟨a, b, c, d⟩ = false) := by show _ = _; simp [sndK]; omega
    go_enter Try.func19, Try.ntmps19
    go_wp2
    go_ret
    exact FIN.out _ HV.out
  by_cases h2 : 9 < d
  · have HV : Hid (sndK n ⟨a, b, c, d⟩ = false) := by show _ = _; simp [sndK]; omega
    go_enter Try.func19, Try.ntmps19
    go_wp2
    go_ret
    exact FIN.out _ HV.out
  by_cases h3 : b < 0
  · have HV : Hid (sndK n ⟨a, b, c, d⟩ = false) := by show _ = _; simp [sndK]; omega
    go_enter Try.func19, Try.ntmps19
    go_wp2
    go_ret
    exact FIN.out _ HV.out
  by_cases h4 : 16 ≤ b
  · have HV : Hid (sndK n ⟨a, b, c, d⟩ = false) := by show _ = _; simp [sndK]; omega
    go_enter Try.func19, Try.ntmps19
    go_wp2
    go_ret
    exact FIN.out _ HV.out
  by_cases h5 : c < 0
  · have HV : Hid (sndK n ⟨a, b, c, d⟩ = false) := by show _ = _; simp [sndK]; omega
    go_enter Try.func19, Try.ntmps19
    go_wp2
    go_ret
    exact FIN.out _ HV.out
  by_cases h6 : 16 ≤ c
  · have HV : Hid (sndK n ⟨a, b, c, d⟩ = false) := by show _ = _; simp [sndK]; omega
    go_enter Try.func19, Try.ntmps19
    go_wp2
    go_ret
    exact FIN.out _ HV.out
  have h1' : 0 ≤ d := by omega
  have h2' : d ≤ 9 := by omega
  have h3' : 0 ≤ b := by omega
  have h4' : b < 16 := by omega
  have h5' : 0 ≤ c := by omega
  have h6' : c < 16 := by omega
  have HB : Hid (decide (0 ≤ d ∧ d ≤ 9 ∧ 0 ≤ b ∧ b < 16 ∧ 0 ≤ c ∧ c < 16) = true) := by show _ = _; simp; omega
  by_cases a1 : a = -1
  · subst a1
    by_cases hb : b = 0
    · subst hb
      have HV : Hid (sndK n ⟨-1, 0, c, d⟩ = true) := by show _ = _; unfold sndK; dsimp only; rw [HB.out]; simp
      go_enter Try.func19, Try.ntmps19
      go_wp2
      go_ret
      exact FIN.out _ HV.out
    · have hbI : (b == 0) = false := by rw [beq_eq_false_iff_ne]; exact hb
      have HV : Hid (sndK n ⟨-1, b, c, d⟩ = false) := by show _ = _; unfold sndK; dsimp only; rw [HB.out, hbI]; simp
      go_enter Try.func19, Try.ntmps19
      go_wp2
      go_ret
      exact FIN.out _ HV.out
  · have a1I : (a == -1) = false := by rw [beq_eq_false_iff_ne]; exact a1
    by_cases a0 : a < 0
    · have HV : Hid (sndK n ⟨a, b, c, d⟩ = false) := by show _ = _; unfold sndK; dsimp only; rw [a1I]; simp; omega
      go_enter Try.func19, Try.ntmps19
      go_wp2
      go_ret
      exact FIN.out _ HV.out
    · have a0' : 0 ≤ a := by omega
      by_cases an : a < (n : Int)
      · by_cases hc : c = 0
        · subst hc
          have HV : Hid (sndK n ⟨a, b, 0, d⟩ = true) := by show _ = _; unfold sndK; dsimp only; rw [HB.out]; simp [a0', an]
          go_enter Try.func19, Try.ntmps19
          go_wp2
          go_ret
          exact FIN.out _ HV.out
        · have hcI : (c == 0) = false := by rw [beq_eq_false_iff_ne]; exact hc
          have HV : Hid (sndK n ⟨a, b, c, d⟩ = false) := by show _ = _; unfold sndK; dsimp only; rw [a1I, hcI]; simp
          go_enter Try.func19, Try.ntmps19
          go_wp2
          go_ret
          exact FIN.out _ HV.out
      · have HV : Hid (sndK n ⟨a, b, c, d⟩ = false) := by show _ = _; unfold sndK; dsimp only; rw [a1I]; simp; omega
        go_enter Try.func19, Try.ntmps19
        go_wp2
        go_ret
        exact FIN.out _ HV.out

end Go.Proofs.Ytokfiflflcfidab
