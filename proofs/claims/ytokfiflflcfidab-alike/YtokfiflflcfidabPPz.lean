import Derived.Test.YtokfiflflcfidabRows
import Derived.Test.YtokfiflflcfidabPSndT
import Derived.Test.YtokfiflflcfidabPPy
import Derived.Test.YtokfiflflcfidabEvMem
import Derived.WalkKit
import Derived.WalkSpells
import Derived.WalkLawsBesides
import Derived.Deep.QuietTactic
import Derived.BigQuiet
namespace Go.Proofs.Ytokfiflflcfidab
open Go.RowKit

set_option maxRecDepth 100000 in
set_option maxHeartbeats 800000 in
/-- the program's Play of a test that is not sound -/
theorem pplay_bad (nv : ByteArray) (cv wv sv : Value) (code : List (List Q4)) (want : List Q4) (lo hi : Nat) (model : Int) (w : World) (hC : Rd44 lo hi w cv code) (hW : Rd4 lo hi w wv want) (hhi : hi ≤ w.heap.size) (hnv : nv.size ≤ 9223372036854775807)
    (hS : sndT nv.data.toList code want = false) :
    Calls Try.prog 8 #[.agg #[.string nv, cv, wv], .int .i64 model, sv] w fun r w' => r = .returned (.tuple #[.slice none 0 0, .bool false, .int .i64 9]) ∧ Below w.heap.size w w' := by
  have HC : Hid (Rd44 lo hi w cv code) := hC
  have HW : Hid (Rd4 lo hi w wv want) := hW
  obtain ⟨ca, cc, rfl, _⟩ := id hC
  obtain ⟨wa, wc, rfl, _⟩ := id hW
  have hb0 : Below w.heap.size w (w.alloc (.cells #[.string nv, .slice ca code.length cc, .slice wa want.length wc] 31)) := (Below.refl _ _).alloc (Nat.le_refl _) _
  have HB0 : Hid _ := hb0
  have HSN : Hid _ := isSound_any nv (.slice ca code.length cc) (.slice wa want.length wc) code want lo hi _ (Rd44.span HC.out (Span.of_below hb0 hhi)) (Rd4.span HW.out (Span.of_below hb0 hhi)) (by have := hb0.size; omega) hnv
  rw [hS] at HSN
  obtain ⟨cn, hcn⟩ : ∃ n, code.length = n := ⟨_, rfl⟩
  obtain ⟨wn, hwn⟩ : ∃ n, want.length = n := ⟨_, rfl⟩
  rw [hcn] at HC HB0 HSN ⊢
  rw [hwn] at HW HB0 HSN ⊢
  clear hC hW hb0 hcn hwn hS
  go_enter Try.func8, Try.ntmps8
  go_wp2_with fail
  refine Calls.mono HSN.out ?_
  rintro r w1 ⟨rfl, hb1⟩
  have HB1 : Hid (Below w.heap.size w w1) := HB0.out.trans (hb1.mono HB0.out.size)
  clear hb1
  go_wp2
  go_ret3
  exact ⟨rfl, HB1.out⟩

set_option maxRecDepth 100000 in
set_option maxHeartbeats 800000 in
/-- of another machine -/
theorem pplay_model (nv : ByteArray) (cv wv sv : Value) (code : List (List Q4)) (want : List Q4) (lo hi : Nat) (model : Int) (hm : model ≠ 0 ∧ model ≠ 1) (w : World) (hC : Rd44 lo hi w cv code) (hW : Rd4 lo hi w wv want) (hhi : hi ≤ w.heap.size) (hnv : nv.size ≤ 9223372036854775807)
    (hS : sndT nv.data.toList code want = true) :
    Calls Try.prog 8 #[.agg #[.string nv, cv, wv], .int .i64 model, sv] w fun r w' => r = .returned (.tuple #[.slice none 0 0, .bool false, .int .i64 7]) ∧ Below w.heap.size w w' := by
  have HC : Hid (Rd44 lo hi w cv code) := hC
  have HW : Hid (Rd4 lo hi w wv want) := hW
  obtain ⟨ca, cc, rfl, _⟩ := id hC
  obtain ⟨wa, wc, rfl, _⟩ := id hW
  have hb0 : Below w.heap.size w (w.alloc (.cells #[.string nv, .slice ca code.length cc, .slice wa want.length wc] 31)) := (Below.refl _ _).alloc (Nat.le_refl _) _
  have HB0 : Hid _ := hb0
  have HSN : Hid _ := isSound_any nv (.slice ca code.length cc) (.slice wa want.length wc) code want lo hi _ (Rd44.span HC.out (Span.of_below hb0 hhi)) (Rd4.span HW.out (Span.of_below hb0 hhi)) (by have := hb0.size; omega) hnv
  rw [hS] at HSN
  have e0 : (model == 0) = false := by rw [beq_eq_false_iff_ne]; exact hm.1
  have e1 : (model == 1) = false := by rw [beq_eq_false_iff_ne]; exact hm.2
  have n0 : (model != 0) = true := by rw [bne_iff_ne]; exact hm.1
  have n1 : (model != 1) = true := by rw [bne_iff_ne]; exact hm.2
  obtain ⟨cn, hcn⟩ : ∃ n, code.length = n := ⟨_, rfl⟩
  obtain ⟨wn, hwn⟩ : ∃ n, want.length = n := ⟨_, rfl⟩
  rw [hcn] at HC HB0 HSN ⊢
  rw [hwn] at HW HB0 HSN ⊢
  clear hC hW hb0 hcn hwn hS hm
  go_enter Try.func8, Try.ntmps8
  go_wp2_with fail
  refine Calls.mono HSN.out ?_
  rintro r w1 ⟨rfl, hb1⟩
  have HB1 : Hid (Below w.heap.size w w1) := HB0.out.trans (hb1.mono HB0.out.size)
  clear hb1
  go_wp2
  go_ret3
  exact ⟨rfl, HB1.out⟩

/-- v reads as the numbers l -/
def NumR (w : World) (v : Value) (l : List Nat) : Prop :=
  ∃ a cap, v = .slice a l.length cap ∧ ∀ i, i < l.length → ∃ b off, a = some ⟨b, off, none⟩ ∧ b < w.heap.size ∧ w.cell? ⟨b, off + i, none⟩ = some (.int .i64 ((l[i]?.getD 0 : Nat) : Int))
theorem NumR.kept {w w' : World} {v : Value} {l : List Nat} (h : NumR w v l) (hb : Below w.heap.size w w') : NumR w' v l := by
  obtain ⟨a, cap, rfl, h1⟩ := h
  refine ⟨a, cap, rfl, fun i hi => ?_⟩
  obtain ⟨b, off, e, h2, h3⟩ := h1 i hi
  exact ⟨b, off, e, Nat.lt_of_lt_of_le h2 hb.size, (hb.cell (p := ⟨b, _, none⟩) h2).trans h3⟩
theorem Own.numR {w : World} {base T : Nat} {v : Value} {l : List Nat} (h : Own w base T v l) : NumR w v l := by
  rcases h.split with ⟨rfl, rfl⟩ | ⟨g, cap, rfl, _, hG⟩
  · exact ⟨none, 0, rfl, fun i hi => by simp at hi⟩
  · exact ⟨_, cap, rfl, fun i hi => ⟨g, 0, rfl, hG.1, hG.2 i hi⟩⟩

set_option maxRecDepth 100000 in
set_option maxHeartbeats 400000 in
/-- equal lists -/
theorem sameIntsR (l : List Nat) (v u : Value) (w : World) (h : NumR w v l) (k : NumR w u l) (hl : l.length ≤ 1000000) :
    Calls Try.prog 14 #[v, u] w fun r w' => r = .returned (.bool true) ∧ ∃ m, w' = w.drewN m := by
  obtain ⟨a, ca, rfl, hA⟩ := h
  obtain ⟨b, cb, rfl, hB⟩ := k
  have HA : Hid _ := hA
  have HB : Hid _ := hB
  clear hA hB
  obtain ⟨n, hn⟩ : ∃ n, l.length = n := ⟨_, rfl⟩
  rw [hn] at HA HB hl ⊢
  clear hn
  go_enter Try.func14, Try.ntmps14
  go_wp2
  go_loopw [5] (fun i wr => ∃ k : Nat, k ≤ n ∧ i = .int .i64 k ∧ ∃ m, wr = w.drewN m) (fun i _ => n - (intOf i).toNat)
  case atStart => exact ⟨0, Nat.zero_le _, rfl, 0, rfl⟩
  case round =>
    obtain ⟨k, hk, rfl, m, rfl⟩ := hrel
    by_cases hlt : k < n
    · obtain ⟨b1, o1, rfl, _, h1⟩ := HA.out k hlt
      obtain ⟨b2, o2, rfl, _, h2⟩ := HB.out k hlt
      generalize l[k]?.getD 0 = x at *
      go_wp2
      go_quiet (fail)
      go_wp2
      go_roundw
      case rel => exact ⟨k + 1, by omega, by go_num, _, rfl⟩
      case measure => simp [intOf]; omega
    · go_wp2
      go_ret
      exact ⟨rfl, _, rfl⟩

end Go.Proofs.Ytokfiflflcfidab
