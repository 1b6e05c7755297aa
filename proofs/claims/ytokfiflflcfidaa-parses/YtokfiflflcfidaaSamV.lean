import Derived.Test.YtokfiflflcfidaaRows
import Derived.Test.YtokfiflflcfidaaMemQ
import Derived.Test.YtokfiflflcfidaaSndT
import Derived.WalkKit
import Derived.WalkSpells
import Derived.WalkLawsBesides
import Derived.RegionTactic
import Derived.BigRegion
import Derived.Deep.QuietTactic
import Derived.BigQuiet
namespace Go.Proofs.Ytokfiflflcfidaa
open Go.RowKit

set_option maxRecDepth 100000 in
set_option maxHeartbeats 800000 in
theorem sameIns_any (x : List Q4) (v u : Value) (lo hi lo' hi' : Nat) (w : World) (hX : Rd4 lo hi w v x) (hY : Rd4 lo' hi' w u x) (hx : x.length ≤ 1000) :
    Calls Try.prog 32 #[v, u] w fun r w' => r = .returned (.bool true) ∧ ∃ m, w' = w.drewN m := by
  obtain ⟨xa, xc, rfl, hX⟩ := hX
  obtain ⟨ya, yc, rfl, hY⟩ := hY
  obtain ⟨n, hn⟩ : ∃ n, n = x.length := ⟨_, rfl⟩
  rw [← hn]
  rw [← hn] at hX hY hx
  have HX : Hid _ := hX
  have HY : Hid _ := hY
  clear hX hY hn
  go_enter Try.func32, Try.ntmps32
  go_wp2
  go_loopw [5] (fun i wr => ∃ k : Nat, k ≤ n ∧ i = .int .i64 k ∧ ∃ m, wr = w.drewN m) (fun i _ => n - (intOf i).toNat)
  case atStart => exact ⟨0, Nat.zero_le _, rfl, 0, rfl⟩
  case round =>
    obtain ⟨k, hk, rfl, m, rfl⟩ := hrel
    by_cases hlt : k < n
    · obtain ⟨b1, o1, rfl, _, hb1, h1⟩ := HX.out k hlt
      obtain ⟨b2, o2, rfl, _, hb2, h2⟩ := HY.out k hlt
      generalize x[k]?.getD q0 = z at *
      have d0 : w.cell? ⟨b1, o1 + k * 4, none⟩ = some (.int .i64 z.a) := h1.f0
      have d1 : w.cell? ⟨b1, o1 + k * 4 + 1, none⟩ = some (.int .i64 z.b) := h1.f1
      have d2 : w.cell? ⟨b1, o1 + k * 4 + 2, none⟩ = some (.int .i64 z.c) := h1.f2
      have d3 : w.cell? ⟨b1, o1 + k * 4 + 3, none⟩ = some (.int .i64 z.d) := h1.f3
      have e0 : w.cell? ⟨b2, o2 + k * 4, none⟩ = some (.int .i64 z.a) := h2.f0
      have e1 : w.cell? ⟨b2, o2 + k * 4 + 1, none⟩ = some (.int .i64 z.b) := h2.f1
      have e2 : w.cell? ⟨b2, o2 + k * 4 + 2, none⟩ = some (.int .i64 z.c) := h2.f2
      have e3 : w.cell? ⟨b2, o2 + k * 4 + 3, none⟩ = some (.int .i64 z.d) := h2.f3
      clear h1 h2
      go_wp2
      go_quiet (fail)
      go_wp2
      go_roundw
      case rel => exact ⟨k + 1, by omega, by go_num, _, rfl⟩
      case measure => simp [intOf]; omega
    · go_wp2
      go_ret
      exact ⟨rfl, _, rfl⟩

set_option maxRecDepth 100000 in
set_option maxHeartbeats 1600000 in
theorem same_any (nv : ByteArray) (code : List (List Q4)) (want : List Q4) (cv wv cv' wv' : Value) (lo hi lo' hi' : Nat) (w : World) (hC : Rd44 lo hi w cv code) (hW : Rd4 lo hi w wv want) (hC' : Rd44 lo' hi' w cv' code) (hW' : Rd4 lo' hi' w wv' want) (hhi : hi ≤ w.heap.size) (hhi' : hi' ≤ w.heap.size)
    (b1 : code.length ≤ 1000) (b2 : ∀ k : Nat, (code[k]?.getD []).length ≤ 1000) (b3 : want.length ≤ 1000) :
    Calls Try.prog 16 #[.agg #[.string nv, cv, wv], .agg #[.string nv, cv', wv']] w fun r w' => r = .returned (.bool true) ∧ Below w.heap.size w w' := by
  have HC0 : Hid _ := hC
  have HC0' : Hid _ := hC'
  obtain ⟨ca, cc, rfl, hC⟩ := hC
  obtain ⟨wa, wc, rfl, hW⟩ := hW
  obtain ⟨ca', cc', rfl, hC'⟩ := hC'
  obtain ⟨wa', wc', rfl, hW'⟩ := hW'
  have HC : Hid _ := hC
  have HW : Hid _ := hW
  have HC' : Hid _ := hC'
  have HW' : Hid _ := hW'
  have HB2 : Hid _ := b2
  clear hC hW hC' hW' b2
  have hb0 : Below w.heap.size w ((w.alloc (.cells #[.string nv, .slice ca code.length cc, .slice wa want.length wc] 25)).alloc (.cells #[.string nv, .slice ca' code.length cc', .slice wa' want.length wc'] 25)) := ((Below.refl _ _).alloc (Nat.le_refl _) _).alloc (by simp) _
  generalize hn1 : code.length = n1 at *
  generalize hn2 : want.length = n2 at *
  have HN1 : Hid _ := hn1
  have HN2 : Hid _ := hn2
  clear hn1 hn2
  go_enter Try.func16, Try.ntmps16
  go_wp2
  obtain ⟨w1, hw1⟩ : ∃ w1, w1 = ((w.alloc (.cells #[.string nv, .slice ca n1 cc, .slice wa n2 wc] 25)).alloc (.cells #[.string nv, .slice ca' n1 cc', .slice wa' n2 wc'] 25)) := ⟨_, rfl⟩
  have t1 : w1.cell? ⟨w.heap.size, 1, none⟩ = some (.slice ca n1 cc) := by rw [hw1]; simp
  have t2 : w1.cell? ⟨w.heap.size, 2, none⟩ = some (.slice wa n2 wc) := by rw [hw1]; simp
  have s1 : w1.cell? ⟨w.heap.size + 1, 1, none⟩ = some (.slice ca' n1 cc') := by rw [hw1]; simp
  have s2 : w1.cell? ⟨w.heap.size + 1, 2, none⟩ = some (.slice wa' n2 wc') := by rw [hw1]; simp
  have hs1 : w1.heap.size = w.heap.size + 2 := by rw [hw1]; simp
  rw [← hw1]
  rw [← hw1] at hb0
  have HS1 : Hid _ := hs1
  have hs1' : w.heap.size + 1 < w1.heap.size := by omega
  clear hw1 hs1
  go_loopw [5] (fun i wr => ∃ k : Nat, k ≤ n1 ∧ i = .int .i64 k ∧ ∃ m, wr = w1.drewN m) (fun i _ => n1 - (intOf i).toNat)
  case atStart => exact ⟨0, Nat.zero_le _, rfl, 0, rfl⟩
  case round =>
    obtain ⟨k, hk, rfl, m, rfl⟩ := hrel
    by_cases hlt : k < n1
    · obtain ⟨cb, co, vk, rfl, _, hcb, hcell, hrow⟩ := HC.out k hlt
      obtain ⟨cb', co', vk', rfl, _, hcb', hcell', hrow'⟩ := HC'.out k hlt
      have d1 := (hb0.cell (p := ⟨cb, co + k, none⟩) (by dsimp only; omega)).trans hcell
      have d2 := (hb0.cell (p := ⟨cb', co' + k, none⟩) (by dsimp only; omega)).trans hcell'
      have hcbl : cb < w1.heap.size := by omega
      have hcbl' : cb' < w1.heap.size := by omega
      have hb2 := HB2.out k
      have HR : Hid _ := Rd4.span hrow (Span.of_below hb0 hhi)
      have HR' : Hid _ := Rd4.span hrow' (Span.of_below hb0 hhi')
      obtain ⟨ra, rc, hvk, _⟩ := hrow
      obtain ⟨ra', rc', hvk', _⟩ := hrow'
      obtain ⟨n3, hn3⟩ : ∃ n3, n3 = (code[k]?.getD []).length := ⟨_, rfl⟩
      rw [← hn3] at hvk hvk'
      subst hvk
      subst hvk'
      have HCALL : Hid (∀ m', Calls Try.prog 32 #[.slice ra n3 rc, .slice ra' n3 rc'] (w1.drewN m') fun r w' => r = .returned (.bool true) ∧ ∃ m, w' = (w1.drewN m').drewN m) := fun m' =>
        sameIns_any (code[k]?.getD []) _ _ _ _ _ _ (w1.drewN m') (Rd4.span HR.out (Span.of_below (below_drewN (Below.refl _ _) m') (by omega))) (Rd4.span HR'.out (Span.of_below (below_drewN (Below.refl _ _) m') (by omega))) hb2
      clear hcell hcell' hn3
      go_wp2
      go_quiet (first | (go_at_call 32; refine Calls.mono (HCALL.out _) ?_; rintro r w8 ⟨rfl, m8, rfl⟩; refine ⟨rfl, ?_⟩; simp only [World.drewN_drewN, Nat.add_assoc]; exact ⟨_, rfl⟩))
      go_wp2
      go_roundw
      case rel => exact ⟨k + 1, by omega, by go_num, _, rfl⟩
      case measure => simp [intOf]; omega
    · go_wp2
      go_loopw [7] (fun i wr => ∃ k : Nat, k ≤ n2 ∧ i = .int .i64 k ∧ ∃ m, wr = w1.drewN m) (fun i _ => n2 - (intOf i).toNat)
      case atStart => exact ⟨0, Nat.zero_le _, rfl, _, rfl⟩
      case round =>
        obtain ⟨j, hj, rfl, m2, rfl⟩ := hrel
        by_cases hjl : j < n2
        · obtain ⟨b1', o1, rfl, _, hb1, h1⟩ := HW.out j hjl
          obtain ⟨b2', o2, rfl, _, hb2, h2⟩ := HW'.out j hjl
          generalize want[j]?.getD q0 = z at *
          have e0 := (hb0.cell (p := ⟨b1', o1 + j * 4, none⟩) (by dsimp only; omega)).trans h1.f0
          have e1 := (hb0.cell (p := ⟨b1', o1 + j * 4 + 1, none⟩) (by dsimp only; omega)).trans h1.f1
          have e2 := (hb0.cell (p := ⟨b1', o1 + j * 4 + 2, none⟩) (by dsimp only; omega)).trans h1.f2
          have e3 := (hb0.cell (p := ⟨b1', o1 + j * 4 + 3, none⟩) (by dsimp only; omega)).trans h1.f3
          have f0 := (hb0.cell (p := ⟨b2', o2 + j * 4, none⟩) (by dsimp only; omega)).trans h2.f0
          have f1 := (hb0.cell (p := ⟨b2', o2 + j * 4 + 1, none⟩) (by dsimp only; omega)).trans h2.f1
          have f2 := (hb0.cell (p := ⟨b2', o2 + j * 4 + 2, none⟩) (by dsimp only; omega)).trans h2.f2
          have f3 := (hb0.cell (p := ⟨b2', o2 + j * 4 + 3, none⟩) (by dsimp only; omega)).trans h2.f3
          have hbl1 : b1' < w1.heap.size := by omega
          have hbl2 : b2' < w1.heap.size := by omega
          clear h1 h2
          go_wp2
          go_quiet (fail)
          go_wp2
          go_roundw
          case rel => exact ⟨j + 1, by omega, by go_num, _, rfl⟩
          case measure => simp [intOf]; omega
        · go_wp2
          go_ret
          exact ⟨rfl, below_drewN hb0 _⟩

end Go.Proofs.Ytokfiflflcfidaa
