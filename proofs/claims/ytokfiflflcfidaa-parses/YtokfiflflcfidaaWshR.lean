import Derived.Test.YtokfiflflcfidaaRows
import Derived.Test.YtokfiflflcfidaaWrdR
import Derived.WalkKit
import Derived.WalkSpells
import Derived.WalkLawsBesides
import Derived.Laws.IdiomStrings
import Derived.Deep.RegionHeld3
namespace Go.Proofs.Ytokfiflflcfidaa
open Go.RowKit

set_option maxRecDepth 100000 in
set_option maxHeartbeats 3200000 in
theorem wish_any (x : Q4) (n : Nat) (hn : n ≤ 16) (hx : sndK n x = true) (w : World) :
    Calls Try.prog 26 #[.agg #[.int .i64 x.a, .int .i64 x.b, .int .i64 x.c, .int .i64 x.d]] w fun r w' => r = .returned (.string ⟨(wishL x).toArray⟩) ∧ Below w.heap.size w w' := by
  obtain ⟨a, b, c, d⟩ := x
  have hx' : (0 ≤ d ∧ d ≤ 9 ∧ 0 ≤ b ∧ b < 16 ∧ 0 ≤ c ∧ c < 16) ∧ (a = -1 ∨ (0 ≤ a ∧ a < 16)) := by
    unfold sndK at hx
    simp only [Bool.and_eq_true, Bool.or_eq_true, decide_eq_true_eq, beq_iff_eq] at hx
    refine ⟨hx.1, ?_⟩
    rcases hx.2 with h | h
    · exact Or.inl h.1
    · exact Or.inr ⟨h.1.1, by omega⟩
  clear hx hn
  obtain ⟨⟨hd0, hd1, hb0, hb1, hc0, hc1⟩, ha⟩ := hx'
  obtain ⟨b, rfl⟩ := Int.eq_ofNat_of_zero_le hb0
  obtain ⟨c, rfl⟩ := Int.eq_ofNat_of_zero_le hc0
  obtain ⟨d, rfl⟩ := Int.eq_ofNat_of_zero_le hd0
  dsimp only
  have HB : Hid (b < 16) := by show _ < _; omega
  have HC : Hid (c < 16) := by show _ < _; omega
  have HD : Hid (d < 16) := by show _ < _; omega
  clear hb0 hb1 hc0 hc1 hd0 hd1
  rcases ha with rfl | ⟨ha0, ha1⟩
  · have HV : Hid (wishL ⟨-1, b, c, d⟩ = [ltN c, 61, dgN d]) := by show _ = _; simp [wishL]
    have HCc : Hid (∀ u, Calls Try.prog 47 #[.int .i64 c] u fun r w' => r = .returned (.string ⟨#[ltN c]⟩) ∧ Below u.heap.size u w') := fun u => letter_any c HC.out u
    have HCd : Hid (∀ u, Calls Try.prog 24 #[.int .i64 d] u fun r w' => r = .returned (.string ⟨#[dgN d]⟩) ∧ Below u.heap.size u w') := fun u => digit_any d HD.out u
    generalize ltN c = yc at *
    generalize dgN d = yd at *
    have HP : Hid ((w.alloc (.cells #[.int .i64 (-1), .int .i64 b, .int .i64 c, .int .i64 d] 57)).cell? ⟨w.heap.size, 0, none⟩ = some (.int .i64 (-1)) ∧ (w.alloc (.cells #[.int .i64 (-1), .int .i64 b, .int .i64 c, .int .i64 d] 57)).cell? ⟨w.heap.size, 2, none⟩ = some (.int .i64 c) ∧ (w.alloc (.cells #[.int .i64 (-1), .int .i64 b, .int .i64 c, .int .i64 d] 57)).cell? ⟨w.heap.size, 3, none⟩ = some (.int .i64 d) ∧ w.heap.size < (w.alloc (.cells #[.int .i64 (-1), .int .i64 b, .int .i64 c, .int .i64 d] 57)).heap.size ∧ Below w.heap.size w (w.alloc (.cells #[.int .i64 (-1), .int .i64 b, .int .i64 c, .int .i64 d] 57))) := ⟨by simp, by simp, by simp, by simp, (Below.refl _ _).alloc (Nat.le_refl _) _⟩
    go_enter Try.func26, Try.ntmps26
    go_wp2
    obtain ⟨p0, p1, p2, hz0, hk0⟩ := HP.out
    clear HP
    generalize (w.alloc (.cells #[.int .i64 (-1), .int .i64 b, .int .i64 c, .int .i64 d] 57)) = W0 at *
    go_region_held3 (fun W => W.cell? ⟨w.heap.size, 0, none⟩ = some (.int .i64 (-1)) ∧ W.cell? ⟨w.heap.size, 2, none⟩ = some (.int .i64 c) ∧ W.cell? ⟨w.heap.size, 3, none⟩ = some (.int .i64 d) ∧ w.heap.size < W.heap.size ∧ Below w.heap.size w W) (((try dsimp only); (repeat' apply And.intro)) <;> first | (exact below_drewN hk0 1) | assumption | go_keep)
      (first
        | (go_at_call 47; refine Calls.mono (HCc.out _) ?_; rintro r wc ⟨rfl, hb⟩; have q0 := hb.cell (p := ⟨w.heap.size, 0, none⟩) (by first | assumption | (simp; assumption)); have q2 := hb.cell (p := ⟨w.heap.size, 2, none⟩) (by first | assumption | (simp; assumption)); have q3 := hb.cell (p := ⟨w.heap.size, 3, none⟩) (by first | assumption | (simp; assumption)); have hk : Below w.heap.size w wc := below_next (by first | assumption | exact below_drewN (by assumption) 1) hb; have hz : w.heap.size < wc.heap.size := Nat.lt_of_lt_of_le (by first | assumption | (simp; assumption)) hb.size)
        | (go_at_call_of 24 (Value.int .i64 (d : Int)); refine Calls.mono (HCd.out _) ?_; rintro r wd ⟨rfl, hb⟩; have q0 := hb.cell (p := ⟨w.heap.size, 0, none⟩) (by first | assumption | (simp; assumption)); have q2 := hb.cell (p := ⟨w.heap.size, 2, none⟩) (by first | assumption | (simp; assumption)); have q3 := hb.cell (p := ⟨w.heap.size, 3, none⟩) (by first | assumption | (simp; assumption)); have hk : Below w.heap.size w wd := below_next (by first | assumption | exact below_drewN (by assumption) 1) hb; have hz : w.heap.size < wd.heap.size := Nat.lt_of_lt_of_le (by first | assumption | (simp; assumption)) hb.size))
    all_goals go_wp2
    all_goals go_ret
    all_goals refine ⟨by rw [HV.out]; rfl, ?_⟩
    all_goals assumption
  · obtain ⟨a, rfl⟩ := Int.eq_ofNat_of_zero_le ha0
    have HA : Hid (a < 16) := by show _ < _; omega
    have hm : ¬ ((a : Int) = -1) := by omega
    have hneg : ¬ ((a : Int) < 0) := by omega
    clear ha0 ha1
    have HV : Hid (wishL ⟨a, b, c, d⟩ = [dgN a, 58, 114, dgN b, 61, dgN d]) := by show _ = _; simp [wishL, hm]
    have HCa : Hid (∀ u, Calls Try.prog 24 #[.int .i64 a] u fun r w' => r = .returned (.string ⟨#[dgN a]⟩) ∧ Below u.heap.size u w') := fun u => digit_any a HA.out u
    have HCb : Hid (∀ u, Calls Try.prog 24 #[.int .i64 b] u fun r w' => r = .returned (.string ⟨#[dgN b]⟩) ∧ Below u.heap.size u w') := fun u => digit_any b HB.out u
    have HCd : Hid (∀ u, Calls Try.prog 24 #[.int .i64 d] u fun r w' => r = .returned (.string ⟨#[dgN d]⟩) ∧ Below u.heap.size u w') := fun u => digit_any d HD.out u
    generalize dgN a = ya at *
    generalize dgN b = yb at *
    generalize dgN d = yd at *
    have HP : Hid ((w.alloc (.cells #[.int .i64 a, .int .i64 b, .int .i64 c, .int .i64 d] 57)).cell? ⟨w.heap.size, 0, none⟩ = some (.int .i64 a) ∧ (w.alloc (.cells #[.int .i64 a, .int .i64 b, .int .i64 c, .int .i64 d] 57)).cell? ⟨w.heap.size, 1, none⟩ = some (.int .i64 b) ∧ (w.alloc (.cells #[.int .i64 a, .int .i64 b, .int .i64 c, .int .i64 d] 57)).cell? ⟨w.heap.size, 3, none⟩ = some (.int .i64 d) ∧ w.heap.size < (w.alloc (.cells #[.int .i64 a, .int .i64 b, .int .i64 c, .int .i64 d] 57)).heap.size ∧ Below w.heap.size w (w.alloc (.cells #[.int .i64 a, .int .i64 b, .int .i64 c, .int .i64 d] 57))) := ⟨by simp, by simp, by simp, by simp, (Below.refl _ _).alloc (Nat.le_refl _) _⟩
    go_enter Try.func26, Try.ntmps26
    go_wp2
    obtain ⟨p0, p1, p2, hz0, hk0⟩ := HP.out
    clear HP
    generalize (w.alloc (.cells #[.int .i64 a, .int .i64 b, .int .i64 c, .int .i64 d] 57)) = W0 at *
    go_region_held3 (fun W => W.cell? ⟨w.heap.size, 0, none⟩ = some (.int .i64 a) ∧ W.cell? ⟨w.heap.size, 1, none⟩ = some (.int .i64 b) ∧ W.cell? ⟨w.heap.size, 3, none⟩ = some (.int .i64 d) ∧ w.heap.size < W.heap.size ∧ Below w.heap.size w W) (((try dsimp only); (repeat' apply And.intro)) <;> first | (exact below_drewN hk0 1) | assumption | go_keep)
      (first
        | (go_at_call_of 24 (Value.int .i64 (a : Int)); refine Calls.mono (HCa.out _) ?_; rintro r wa ⟨rfl, hb⟩; have q0 := hb.cell (p := ⟨w.heap.size, 0, none⟩) (by first | assumption | (simp; assumption)); have q1 := hb.cell (p := ⟨w.heap.size, 1, none⟩) (by first | assumption | (simp; assumption)); have q3 := hb.cell (p := ⟨w.heap.size, 3, none⟩) (by first | assumption | (simp; assumption)); have hk : Below w.heap.size w wa := below_next (by first | assumption | exact below_drewN (by assumption) 1) hb; have hz : w.heap.size < wa.heap.size := Nat.lt_of_lt_of_le (by first | assumption | (simp; assumption)) hb.size)
        | (go_at_call_of 24 (Value.int .i64 (b : Int)); refine Calls.mono (HCb.out _) ?_; rintro r wb ⟨rfl, hb⟩; have q0 := hb.cell (p := ⟨w.heap.size, 0, none⟩) (by first | assumption | (simp; assumption)); have q1 := hb.cell (p := ⟨w.heap.size, 1, none⟩) (by first | assumption | (simp; assumption)); have q3 := hb.cell (p := ⟨w.heap.size, 3, none⟩) (by first | assumption | (simp; assumption)); have hk : Below w.heap.size w wb := below_next (by first | assumption | exact below_drewN (by assumption) 1) hb; have hz : w.heap.size < wb.heap.size := Nat.lt_of_lt_of_le (by first | assumption | (simp; assumption)) hb.size)
        | (go_at_call_of 24 (Value.int .i64 (d : Int)); refine Calls.mono (HCd.out _) ?_; rintro r wd ⟨rfl, hb⟩; have q0 := hb.cell (p := ⟨w.heap.size, 0, none⟩) (by first | assumption | (simp; assumption)); have q1 := hb.cell (p := ⟨w.heap.size, 1, none⟩) (by first | assumption | (simp; assumption)); have q3 := hb.cell (p := ⟨w.heap.size, 3, none⟩) (by first | assumption | (simp; assumption)); have hk : Below w.heap.size w wd := below_next (by first | assumption | exact below_drewN (by assumption) 1) hb; have hz : w.heap.size < wd.heap.size := Nat.lt_of_lt_of_le (by first | assumption | (simp; assumption)) hb.size))
    all_goals go_wp2
    all_goals go_ret
    all_goals refine ⟨by rw [HV.out]; rfl, ?_⟩
    all_goals assumption

end Go.Proofs.Ytokfiflflcfidaa
