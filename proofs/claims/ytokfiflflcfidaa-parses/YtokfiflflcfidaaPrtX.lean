import Derived.Test.YtokfiflflcfidaaRows
import Derived.Test.YtokfiflflcfidaaPrtW
import Derived.WalkKit
import Derived.WalkSpells
import Derived.WalkLawsBesides
namespace Go.Proofs.Ytokfiflflcfidaa
open Go.RowKit

set_option maxRecDepth 100000 in
set_option maxHeartbeats 800000 in
/-- the program's Print of a sound test -/
theorem pprint_any (nv : ByteArray) (cv wv : Value) (code : List (List Q4)) (want : List Q4) (lo hi : Nat) (w : World) (hC : Rd44 lo hi w cv code) (hW : Rd4 lo hi w wv want) (hhi : hi ≤ w.heap.size) (hnv : nv.size ≤ 9223372036854775807)
    (hS : sndT nv.data.toList code want = true) :
    Calls Try.prog 8 #[.agg #[.string nv, cv, wv]] w fun r w' => r = .returned (.tuple #[.string ⟨(printL nv.data.toList code want).toArray⟩, .int .i64 0]) ∧ Below w.heap.size w w' := by
  have HC : Hid (Rd44 lo hi w cv code) := hC
  have HW : Hid (Rd4 lo hi w wv want) := hW
  obtain ⟨ca, cc, rfl, _⟩ := id hC
  obtain ⟨wa, wc, rfl, _⟩ := id hW
  have hb0 : Below w.heap.size w (w.alloc (.cells #[.string nv, .slice ca code.length cc, .slice wa want.length wc] 29)) := (Below.refl _ _).alloc (Nat.le_refl _) _
  have HB0 : Hid _ := hb0
  have HSN : Hid _ := isSound_any nv (.slice ca code.length cc) (.slice wa want.length wc) code want lo hi _ (Rd44.span HC.out (Span.of_below hb0 hhi)) (Rd4.span HW.out (Span.of_below hb0 hhi)) (by have := hb0.size; omega) hnv
  rw [hS] at HSN
  have HS : Hid _ := hS
  obtain ⟨cn, hcn⟩ : ∃ n, code.length = n := ⟨_, rfl⟩
  obtain ⟨wn, hwn⟩ : ∃ n, want.length = n := ⟨_, rfl⟩
  rw [hcn] at HC HB0 HSN ⊢
  rw [hwn] at HW HB0 HSN ⊢
  clear hC hW hb0 hcn hwn hS
  go_enter Try.func8, Try.ntmps8
  go_wp2_with fail
  refine Calls.mono HSN.out ?_
  rintro r w1 ⟨rfl, hb1⟩
  have HB1 : Hid (Below w.heap.size w w1) := HB0.out.trans (hb1.mono HB0.out.size)
  have t0 : w1.cell? ⟨w.heap.size, 0, none⟩ = some (.string nv) := (hb1.cell (p := ⟨w.heap.size, 0, none⟩) (by simp)).trans (by simp)
  have t1 : w1.cell? ⟨w.heap.size, 1, none⟩ = some (.slice ca cn cc) := (hb1.cell (p := ⟨w.heap.size, 1, none⟩) (by simp)).trans (by simp)
  have t2 : w1.cell? ⟨w.heap.size, 2, none⟩ = some (.slice wa wn wc) := (hb1.cell (p := ⟨w.heap.size, 2, none⟩) (by simp)).trans (by simp)
  clear hb1
  go_wp2_with fail
  refine Calls.mono (printTest_any nv (.slice ca cn cc) (.slice wa wn wc) code want lo hi w1 (Rd44.span HC.out (Span.of_below HB1.out hhi)) (Rd4.span HW.out (Span.of_below HB1.out hhi)) (by have := HB1.out.size; omega) HS.out) ?_
  rintro r w2 ⟨rfl, hb2⟩
  have HB2 : Hid (Below w.heap.size w w2) := HB1.out.trans (hb2.mono HB1.out.size)
  clear hb2
  go_wp2
  go_ret2
  exact ⟨rfl, HB2.out⟩

set_option maxRecDepth 100000 in
set_option maxHeartbeats 800000 in
/-- of another -/
theorem pprint_bad (nv : ByteArray) (cv wv : Value) (code : List (List Q4)) (want : List Q4) (lo hi : Nat) (w : World) (hC : Rd44 lo hi w cv code) (hW : Rd4 lo hi w wv want) (hhi : hi ≤ w.heap.size) (hnv : nv.size ≤ 9223372036854775807)
    (hS : sndT nv.data.toList code want = false) :
    Calls Try.prog 8 #[.agg #[.string nv, cv, wv]] w fun r w' => r = .returned (.tuple #[.string ⟨#[]⟩, .int .i64 9]) ∧ Below w.heap.size w w' := by
  have HC : Hid (Rd44 lo hi w cv code) := hC
  have HW : Hid (Rd4 lo hi w wv want) := hW
  obtain ⟨ca, cc, rfl, _⟩ := id hC
  obtain ⟨wa, wc, rfl, _⟩ := id hW
  have hb0 : Below w.heap.size w (w.alloc (.cells #[.string nv, .slice ca code.length cc, .slice wa want.length wc] 29)) := (Below.refl _ _).alloc (Nat.le_refl _) _
  have HB0 : Hid _ := hb0
  have HSN : Hid _ := isSound_any nv (.slice ca code.length cc) (.slice wa want.length wc) code want lo hi _ (Rd44.span HC.out (Span.of_below hb0 hhi)) (Rd4.span HW.out (Span.of_below hb0 hhi)) (by have := hb0.size; omega) hnv
  rw [hS] at HSN
  obtain ⟨cn, hcn⟩ : ∃ n, code.length = n := ⟨_, rfl⟩
  obtain ⟨wn, hwn⟩ : ∃ n, want.length = n := ⟨_, rfl⟩
  rw [hcn] at HC HB0 HSN ⊢
  rw [hwn] at HW HB0 HSN ⊢
  clear hC hW hb0 hcn hwn hS
  go_enter Try.func8, Try.ntmps8
  go_wp2_with fail
  refine Calls.mono HSN.out ?_
  rintro r w1 ⟨rfl, hb1⟩
  have HB1 : Hid (Below w.heap.size w w1) := HB0.out.trans (hb1.mono HB0.out.size)
  clear hb1
  go_wp2
  go_ret2
  exact ⟨rfl, HB1.out⟩

end Go.Proofs.Ytokfiflflcfidaa
