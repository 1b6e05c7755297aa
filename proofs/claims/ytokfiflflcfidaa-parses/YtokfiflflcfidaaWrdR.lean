import Derived.Test.YtokfiflflcfidaaRows
import Derived.Test.YtokfiflflcfidaaWrdW
import Derived.Test.YtokfiflflcfidaaDigW
import Derived.WalkKit
import Derived.WalkSpells
import Derived.WalkLawsBesides
import Derived.Laws.IdiomStrings
import Derived.RegionTactic
import Derived.BigRegion
import Derived.Deep.RegionWith
import Derived.Deep.RegionLaw
namespace Go.Proofs.Ytokfiflflcfidaa
open Go.RowKit

theorem below_next {w wa w1 : World} (h0 : Below w.heap.size w wa) (h1 : Below wa.heap.size wa w1) : Below w.heap.size w w1 := h0.trans (h1.mono h0.size)
theorem box_next {wa w1 : World} {p : Nat} {o : Obj} (h0 : wa.heap[p]? = some o) (h1 : Below wa.heap.size wa w1) : w1.heap[p]? = some o := (h1.block _ (Array.getElem?_eq_some_iff.1 h0).1).trans h0
theorem box_cells {w1 : World} {p : Nat} {a b c d : Value} {T : Nat} (h : w1.heap[p]? = some (.cells #[a, b, c, d] T (0, 0))) :
    w1.cell? ⟨p, 0, none⟩ = some a ∧ w1.cell? ⟨p, 1, none⟩ = some b ∧ w1.cell? ⟨p, 2, none⟩ = some c ∧ w1.cell? ⟨p, 3, none⟩ = some d := by
  refine ⟨?_, ?_, ?_, ?_⟩ <;> rw [cell_of_row _ _ _ _ _ _ h] <;> rfl

set_option maxRecDepth 100000 in
set_option maxHeartbeats 3200000 in
theorem word_any (x : Q4) (hx : sndI x = true) (w : World) :
    Calls Try.prog 25 #[.agg #[.int .i64 x.a, .int .i64 x.b, .int .i64 x.c, .int .i64 x.d]] w fun r w' => r = .returned (.string ⟨(wordL x).toArray⟩) ∧ Below w.heap.size w w' := by
  obtain ⟨a, b, c, d⟩ := x
  have hx' : (0 ≤ b ∧ b < 16 ∧ 0 ≤ c ∧ c < 16 ∧ 0 ≤ d ∧ d ≤ 9) ∧ (a = 1 ∨ a = 2 ∨ a = 3) := by
    unfold sndI at hx
    simp only [Bool.and_eq_true, Bool.or_eq_true, decide_eq_true_eq, beq_iff_eq] at hx
    refine ⟨hx.1, ?_⟩
    rcases hx.2 with (h | h) | h
    · exact Or.inl h.1
    · exact Or.inr (Or.inl h.1)
    · exact Or.inr (Or.inr h.1.1.1)
  clear hx
  obtain ⟨⟨hb0, hb1, hc0, hc1, hd0, hd1⟩, ha⟩ := hx'
  obtain ⟨b, rfl⟩ := Int.eq_ofNat_of_zero_le hb0
  obtain ⟨c, rfl⟩ := Int.eq_ofNat_of_zero_le hc0
  obtain ⟨d, rfl⟩ := Int.eq_ofNat_of_zero_le hd0
  dsimp only
  have HB : Hid (b < 16) := by show _ < _; omega
  have HC : Hid (c < 16) := by show _ < _; omega
  have HD : Hid (d < 16) := by show _ < _; omega
  clear hb0 hb1 hc0 hc1 hd0 hd1
  rcases ha with rfl | rfl | rfl
  · have HV : Hid (wordL ⟨1, b, c, d⟩ = [ltN c, 61, dgN d]) := by show _ = _; simp [wordL]
    have HX : Hid ((w.alloc (.cells #[.int .i64 1, .int .i64 b, .int .i64 c, .int .i64 d] 54)).drew.heap[w.heap.size]? = some (.cells #[.int .i64 1, .int .i64 b, .int .i64 c, .int .i64 d] 54 (0, 0))) := heap_alloc_new w _
    have HW : Hid (Below w.heap.size w (w.alloc (.cells #[.int .i64 1, .int .i64 b, .int .i64 c, .int .i64 d] 54)).drew) := below_drewN ((Below.refl _ _).alloc (Nat.le_refl _) _) 1
    have HCc : Hid (∀ u, Calls Try.prog 47 #[.int .i64 c] u fun r w' => r = .returned (.string ⟨#[ltN c]⟩) ∧ Below u.heap.size u w') := fun u => letter_any c HC.out u
    have HCd : Hid (∀ u, Calls Try.prog 24 #[.int .i64 d] u fun r w' => r = .returned (.string ⟨#[dgN d]⟩) ∧ Below u.heap.size u w') := fun u => digit_any d HD.out u
    generalize ltN c = yc at *
    generalize dgN d = yd at *
    go_enter Try.func25, Try.ntmps25
    go_wp2
    go_region_with (first | (go_at_call 47; refine Calls.mono (HCc.out _) ?_; rintro r wc ⟨rfl, hb⟩; have HBc : Hid _ := hb; clear hb; have HRc : Hid (wc.heap[w.heap.size]? = some (.cells #[.int .i64 1, .int .i64 b, .int .i64 c, .int .i64 d] 54 (0, 0))) := (by first | exact box_next HRd.out HBc.out | exact box_next HX.out HBc.out); have HWc : Hid (Below w.heap.size w wc) := (by first | exact below_next HWd.out HBc.out | exact below_next HW.out HBc.out); obtain ⟨q0c, q1c, q2c, q3c⟩ := box_cells HRc.out) | (go_at_call 24; refine Calls.mono (HCd.out _) ?_; rintro r wd ⟨rfl, hb⟩; have HBd : Hid _ := hb; clear hb; have HRd : Hid (wd.heap[w.heap.size]? = some (.cells #[.int .i64 1, .int .i64 b, .int .i64 c, .int .i64 d] 54 (0, 0))) := (by first | exact box_next HRc.out HBd.out | exact box_next HX.out HBd.out); have HWd : Hid (Below w.heap.size w wd) := (by first | exact below_next HWc.out HBd.out | exact below_next HW.out HBd.out); obtain ⟨q0d, q1d, q2d, q3d⟩ := box_cells HRd.out))
    all_goals go_wp2
    all_goals go_ret
    all_goals refine ⟨by rw [HV.out]; rfl, ?_⟩
    all_goals first | exact HWc.out | exact HWd.out
  · have HV : Hid (wordL ⟨2, b, c, d⟩ = [114, dgN b, 61, ltN c]) := by show _ = _; simp [wordL]
    have HX : Hid ((w.alloc (.cells #[.int .i64 2, .int .i64 b, .int .i64 c, .int .i64 d] 54)).drew.heap[w.heap.size]? = some (.cells #[.int .i64 2, .int .i64 b, .int .i64 c, .int .i64 d] 54 (0, 0))) := heap_alloc_new w _
    have HW : Hid (Below w.heap.size w (w.alloc (.cells #[.int .i64 2, .int .i64 b, .int .i64 c, .int .i64 d] 54)).drew) := below_drewN ((Below.refl _ _).alloc (Nat.le_refl _) _) 1
    have HCb : Hid (∀ u, Calls Try.prog 24 #[.int .i64 b] u fun r w' => r = .returned (.string ⟨#[dgN b]⟩) ∧ Below u.heap.size u w') := fun u => digit_any b HB.out u
    have HCc : Hid (∀ u, Calls Try.prog 47 #[.int .i64 c] u fun r w' => r = .returned (.string ⟨#[ltN c]⟩) ∧ Below u.heap.size u w') := fun u => letter_any c HC.out u
    generalize dgN b = yb at *
    generalize ltN c = yc at *
    go_enter Try.func25, Try.ntmps25
    go_wp2
    go_region_with (first | (go_at_call 24; refine Calls.mono (HCb.out _) ?_; rintro r wb ⟨rfl, hb⟩; have HBb : Hid _ := hb; clear hb; have HRb : Hid (wb.heap[w.heap.size]? = some (.cells #[.int .i64 2, .int .i64 b, .int .i64 c, .int .i64 d] 54 (0, 0))) := (by first | exact box_next HRc.out HBb.out | exact box_next HX.out HBb.out); have HWb : Hid (Below w.heap.size w wb) := (by first | exact below_next HWc.out HBb.out | exact below_next HW.out HBb.out); obtain ⟨q0b, q1b, q2b, q3b⟩ := box_cells HRb.out) | (go_at_call 47; refine Calls.mono (HCc.out _) ?_; rintro r wc ⟨rfl, hb⟩; have HBc : Hid _ := hb; clear hb; have HRc : Hid (wc.heap[w.heap.size]? = some (.cells #[.int .i64 2, .int .i64 b, .int .i64 c, .int .i64 d] 54 (0, 0))) := (by first | exact box_next HRb.out HBc.out | exact box_next HX.out HBc.out); have HWc : Hid (Below w.heap.size w wc) := (by first | exact below_next HWb.out HBc.out | exact below_next HW.out HBc.out); obtain ⟨q0c, q1c, q2c, q3c⟩ := box_cells HRc.out))
    all_goals go_wp2
    all_goals go_ret
    all_goals refine ⟨by rw [HV.out]; rfl, ?_⟩
    all_goals first | exact HWb.out | exact HWc.out
  · have HV : Hid (wordL ⟨3, b, c, d⟩ = [102, 101, 110, 99, 101]) := by show _ = _; simp [wordL]
    go_enter Try.func25, Try.ntmps25
    go_wp2
    go_ret
    exact ⟨by rw [HV.out]; rfl, (Below.refl _ _).alloc (Nat.le_refl _) _⟩

end Go.Proofs.Ytokfiflflcfidaa
