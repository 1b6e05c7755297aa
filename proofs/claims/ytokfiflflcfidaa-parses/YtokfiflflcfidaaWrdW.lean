import Derived.Test.YtokfiflflcfidaaRows
import Derived.Test.YtokfiflflcfidaaDigA
import Derived.Test.YtokfiflflcfidaaMemQ
import Derived.Test.YtokfiflflcfidaaSndI
import Derived.WalkKit
import Derived.WalkSpells
import Derived.WalkLawsBesides
import Derived.Laws.IdiomStrings
import Derived.RegionTactic
import Derived.BigRegion
import Derived.Deep.RegionWith
import Derived.Deep.RegionLaw
namespace Go.Proofs.Ytokfiflflcfidaa
open Go.RowKit

/-- how an instruction is written: its numbers are below 16 -/
def wordL (x : Q4) : List UInt8 :=
  if x.a = 1 then [ltN x.c.toNat, 61, dgN x.d.toNat] else if x.a = 2 then [114, dgN x.b.toNat, 61, ltN x.c.toNat] else [102, 101, 110, 99, 101]
/-- how a claim is written -/
def wishL (x : Q4) : List UInt8 :=
  if x.a = -1 then [ltN x.c.toNat, 61, dgN x.d.toNat] else [dgN x.a.toNat, 58, 114, dgN x.b.toNat, 61, dgN x.d.toNat]
/-- how a thread's line begins -/
def headL (k : Nat) : List UInt8 := [80, dgN k, 58]

set_option maxRecDepth 100000 in
set_option maxHeartbeats 800000 in
theorem threadHead_any (k : Nat) (hk : k < 16) (w : World) :
    Calls Try.prog 44 #[.int .i64 k] w fun r w' => r = .returned (.string ⟨(headL k).toArray⟩) ∧ Below w.heap.size w w' := by
  have hcv := back_any w (headL k) #[.int .u8 80, .int .u8 ((dgN k).toNat : Int), .int .u8 58] rfl 3 3 rfl
  have hbb : Below w.heap.size w (w.alloc (.cells #[.int .u8 80, .int .u8 ((dgN k).toNat : Int), .int .u8 58] 5)) := (Below.refl _ _).alloc (Nat.le_refl _) _
  have HBB : Hid _ := hbb
  clear hbb
  have HS : Hid _ := signN_any k hk w
  generalize dgN k = d at *
  generalize headL k = h at *
  go_enter Try.func44, Try.ntmps44
  go_wp2_with (go_at_call 66; refine Calls.mono HS.out ?_; rintro r w1 ⟨rfl, rfl⟩)
  go_ret
  exact ⟨rfl, HBB.out⟩

/-- the block of a boxed instruction, then the word's bytes -/
theorem below_two (w : World) (a b : Obj) : Below w.heap.size w ((w.alloc a).alloc b) := ((Below.refl _ _).alloc (Nat.le_refl _) _).alloc (by simp) _

set_option maxRecDepth 100000 in
set_option maxHeartbeats 1600000 in
theorem insWord_any (x : Q4) (hx : sndI x = true) (w : World) :
    Calls Try.prog 45 #[.agg #[.int .i64 x.a, .int .i64 x.b, .int .i64 x.c, .int .i64 x.d]] w fun r w' => r = .returned (.string ⟨(wordL x).toArray⟩) ∧ Below w.heap.size w w' := by
  obtain ⟨a, b, c, d⟩ := x
  have hx' : (0 ≤ b ∧ b < 16 ∧ 0 ≤ c ∧ c < 16 ∧ 0 ≤ d ∧ d ≤ 9) ∧ (a = 1 ∨ a = 2 ∨ a = 3) := by
    unfold sndI at hx
    simp only [Bool.and_eq_true, Bool.or_eq_true, decide_eq_true_eq, beq_iff_eq] at hx
    refine ⟨hx.1, ?_⟩
    rcases hx.2 with (h | h) | h
    · exact Or.inl h.1
    · exact Or.inr (Or.inl h.1)
    · exact Or.inr (Or.inr h.1.1.1)
  clear hx
  obtain ⟨⟨hb0, hb1, hc0, hc1, hd0, hd1⟩, ha⟩ := hx'
  obtain ⟨b, rfl⟩ := Int.eq_ofNat_of_zero_le hb0
  obtain ⟨c, rfl⟩ := Int.eq_ofNat_of_zero_le hc0
  obtain ⟨d, rfl⟩ := Int.eq_ofNat_of_zero_le hd0
  dsimp only
  have HB : Hid (b < 16) := by show _ < _; omega
  have HC : Hid (c < 16) := by show _ < _; omega
  have HD : Hid (d < 10) := by show _ < _; omega
  clear hb0 hb1 hc0 hc1 hd0 hd1
  rcases ha with rfl | rfl | rfl
  · have hcv := back_any (w.alloc (.cells #[.int .i64 1, .int .i64 b, .int .i64 c, .int .i64 d] 55)) [ltN c, 61, dgN d] #[.int .u8 ((ltN c).toNat : Int), .int .u8 61, .int .u8 ((dgN d).toNat : Int)] rfl 3 3 rfl
    simp only [World.size_alloc] at hcv
    have HV : Hid (wordL ⟨1, b, c, d⟩ = [ltN c, 61, dgN d]) := by show _ = _; simp [wordL]
    go_enter Try.func45, Try.ntmps45
    go_wp2_with fail
    refine (signA_any c HC.out _).mono ?_
    rintro r w1 ⟨rfl, rfl⟩
    go_wp2_with fail
    refine (signV_any d HD.out _).mono ?_
    rintro r w1 ⟨rfl, rfl⟩
    go_wp2
    go_ret
    exact ⟨by rw [HV.out]; rfl, below_two _ _ _⟩
  · have hcv := back_any (w.alloc (.cells #[.int .i64 2, .int .i64 b, .int .i64 c, .int .i64 d] 55)) [114, dgN b, 61, ltN c] #[.int .u8 114, .int .u8 ((dgN b).toNat : Int), .int .u8 61, .int .u8 ((ltN c).toNat : Int)] rfl 4 4 rfl
    simp only [World.size_alloc] at hcv
    have HV : Hid (wordL ⟨2, b, c, d⟩ = [114, dgN b, 61, ltN c]) := by show _ = _; simp [wordL]
    go_enter Try.func45, Try.ntmps45
    go_wp2_with fail
    refine (signA_any c HC.out _).mono ?_
    rintro r w1 ⟨rfl, rfl⟩
    go_wp2_with fail
    refine (signN_any b HB.out _).mono ?_
    rintro r w1 ⟨rfl, rfl⟩
    go_wp2
    go_ret
    exact ⟨by rw [HV.out]; rfl, below_two _ _ _⟩
  · have HV : Hid (wordL ⟨3, b, c, d⟩ = [102, 101, 110, 99, 101]) := by show _ = _; simp [wordL]
    go_enter Try.func45, Try.ntmps45
    go_wp2_with fail
    refine (signA_any c HC.out _).mono ?_
    rintro r w1 ⟨rfl, rfl⟩
    go_wp2
    go_ret
    exact ⟨by rw [HV.out]; rfl, (Below.refl _ _).alloc (Nat.le_refl _) _⟩

set_option maxRecDepth 100000 in
set_option maxHeartbeats 1600000 in
theorem claimWord_any (x : Q4) (n : Nat) (hn : n ≤ 16) (hx : sndK n x = true) (w : World) :
    Calls Try.prog 46 #[.agg #[.int .i64 x.a, .int .i64 x.b, .int .i64 x.c, .int .i64 x.d]] w fun r w' => r = .returned (.string ⟨(wishL x).toArray⟩) ∧ Below w.heap.size w w' := by
  obtain ⟨a, b, c, d⟩ := x
  have hx' : (0 ≤ d ∧ d ≤ 9 ∧ 0 ≤ b ∧ b < 16 ∧ 0 ≤ c ∧ c < 16) ∧ (a = -1 ∨ (0 ≤ a ∧ a < 16)) := by
    unfold sndK at hx
    simp only [Bool.and_eq_true, Bool.or_eq_true, decide_eq_true_eq, beq_iff_eq] at hx
    refine ⟨hx.1, ?_⟩
    rcases hx.2 with h | h
    · exact Or.inl h.1
    · exact Or.inr ⟨h.1.1, by omega⟩
  clear hx hn
  obtain ⟨⟨hd0, hd1, hb0, hb1, hc0, hc1⟩, ha⟩ := hx'
  obtain ⟨b, rfl⟩ := Int.eq_ofNat_of_zero_le hb0
  obtain ⟨c, rfl⟩ := Int.eq_ofNat_of_zero_le hc0
  obtain ⟨d, rfl⟩ := Int.eq_ofNat_of_zero_le hd0
  dsimp only
  have HB : Hid (b < 16) := by show _ < _; omega
  have HC : Hid (c < 16) := by show _ < _; omega
  have HD : Hid (d < 10) := by show _ < _; omega
  clear hb0 hb1 hc0 hc1 hd0 hd1
  rcases ha with rfl | ⟨ha0, ha1⟩
  · have hcv := back_any (w.alloc (.cells #[.int .i64 (-1), .int .i64 b, .int .i64 c, .int .i64 d] 58)) [ltN c, 61, dgN d] #[.int .u8 ((ltN c).toNat : Int), .int .u8 61, .int .u8 ((dgN d).toNat : Int)] rfl 3 3 rfl
    simp only [World.size_alloc] at hcv
    have HV : Hid (wishL ⟨-1, b, c, d⟩ = [ltN c, 61, dgN d]) := by show _ = _; simp [wishL]
    go_enter Try.func46, Try.ntmps46
    go_wp2_with fail
    refine (signV_any d HD.out _).mono ?_
    rintro r w1 ⟨rfl, rfl⟩
    go_wp2_with fail
    refine (signA_any c HC.out _).mono ?_
    rintro r w1 ⟨rfl, rfl⟩
    go_wp2
    go_ret
    exact ⟨by rw [HV.out]; rfl, below_two _ _ _⟩
  · obtain ⟨a, rfl⟩ := Int.eq_ofNat_of_zero_le ha0
    have HA : Hid (a < 16) := by show _ < _; omega
    have haI : (((a : Nat) : Int) == -1) = false := by rw [beq_eq_false_iff_ne]; omega
    have hcv := back_any (w.alloc (.cells #[.int .i64 a, .int .i64 b, .int .i64 c, .int .i64 d] 58)) [dgN a, 58, 114, dgN b, 61, dgN d] #[.int .u8 ((dgN a).toNat : Int), .int .u8 58, .int .u8 114, .int .u8 ((dgN b).toNat : Int), .int .u8 61, .int .u8 ((dgN d).toNat : Int)] rfl 6 6 rfl
    simp only [World.size_alloc] at hcv
    have HV : Hid (wishL ⟨a, b, c, d⟩ = [dgN a, 58, 114, dgN b, 61, dgN d]) := by
      show _ = _
      have : ¬ ((a : Int) = -1) := by omega
      simp [wishL, this]
    clear ha0 ha1
    go_enter Try.func46, Try.ntmps46
    go_wp2_with fail
    refine (signV_any d HD.out _).mono ?_
    rintro r w1 ⟨rfl, rfl⟩
    go_wp2_with fail
    refine (signN_any a HA.out _).mono ?_
    rintro r w1 ⟨rfl, rfl⟩
    go_wp2_with fail
    refine (signN_any b HB.out _).mono ?_
    rintro r w1 ⟨rfl, rfl⟩
    go_wp2
    go_ret
    exact ⟨by rw [HV.out]; rfl, below_two _ _ _⟩

end Go.Proofs.Ytokfiflflcfidaa
