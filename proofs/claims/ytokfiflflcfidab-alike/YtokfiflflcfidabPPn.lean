import Derived.Test.YtokfiflflcfidabRows
import Derived.Test.YtokfiflflcfidabPPl
import Derived.WalkKit
import Derived.WalkSpells
import Derived.WalkLawsBesides
namespace Go.Proofs.Ytokfiflflcfidab
open Go.RowKit

theorem Try.infoIntP : (Try.prog.info? 3).map (fun i => (i.zero, i.size, i.bytes)) = some (some (.int .i64 0), 1, 8) := by kernel_rfl
theorem lt16 {n : Nat} (h : n < 16) : n = 0 ∨ n = 1 ∨ n = 2 ∨ n = 3 ∨ n = 4 ∨ n = 5 ∨ n = 6 ∨ n = 7 ∨ n = 8 ∨ n = 9 ∨ n = 10 ∨ n = 11 ∨ n = 12 ∨ n = 13 ∨ n = 14 ∨ n = 15 := by omega
/-- the first n registers of thread k, behind those of the threads below it -/
def nmsTo (s : St) (k n : Nat) : List Nat := regsTo s k ++ (List.range n).map fun r => (s.th k).regs[r]?.getD 0
theorem nmsTo_zero (s : St) (k : Nat) : nmsTo s k 0 = regsTo s k := by simp [nmsTo]
theorem nmsTo_succ (s : St) (k n : Nat) : nmsTo s k (n + 1) = nmsTo s k n ++ [(s.th k).regs[n]?.getD 0] := by simp [nmsTo, List.range_succ]
theorem nmsTo_all (s : St) (k : Nat) : nmsTo s k 16 = regsTo s (k + 1) := by rw [regsTo_succ]; rfl
def celTo (s : St) (k n : Nat) : List Nat := regsTo s k ++ (List.range n).map s.mem
theorem celTo_zero (s : St) (k : Nat) : celTo s k 0 = regsTo s k := by simp [celTo]
theorem celTo_succ (s : St) (k n : Nat) : celTo s k (n + 1) = celTo s k n ++ [s.mem n] := by simp [celTo, List.range_succ]

theorem Try.ix0 (x0 x1 x2 x3 x4 x5 x6 x7 x8 x9 x10 x11 x12 x13 x14 x15 : Value) (w : World) : (Instr.index 77 (.agg #[x0, x1, x2, x3, x4, x5, x6, x7, x8, x9, x10, x11, x12, x13, x14, x15]) (.int .i64 0)).run Try.prog w = .ok x0 w := by kernel_rfl
theorem Try.ix1 (x0 x1 x2 x3 x4 x5 x6 x7 x8 x9 x10 x11 x12 x13 x14 x15 : Value) (w : World) : (Instr.index 77 (.agg #[x0, x1, x2, x3, x4, x5, x6, x7, x8, x9, x10, x11, x12, x13, x14, x15]) (.int .i64 1)).run Try.prog w = .ok x1 w := by kernel_rfl
theorem Try.ix2 (x0 x1 x2 x3 x4 x5 x6 x7 x8 x9 x10 x11 x12 x13 x14 x15 : Value) (w : World) : (Instr.index 77 (.agg #[x0, x1, x2, x3, x4, x5, x6, x7, x8, x9, x10, x11, x12, x13, x14, x15]) (.int .i64 2)).run Try.prog w = .ok x2 w := by kernel_rfl
theorem Try.ix3 (x0 x1 x2 x3 x4 x5 x6 x7 x8 x9 x10 x11 x12 x13 x14 x15 : Value) (w : World) : (Instr.index 77 (.agg #[x0, x1, x2, x3, x4, x5, x6, x7, x8, x9, x10, x11, x12, x13, x14, x15]) (.int .i64 3)).run Try.prog w = .ok x3 w := by kernel_rfl
theorem Try.ix4 (x0 x1 x2 x3 x4 x5 x6 x7 x8 x9 x10 x11 x12 x13 x14 x15 : Value) (w : World) : (Instr.index 77 (.agg #[x0, x1, x2, x3, x4, x5, x6, x7, x8, x9, x10, x11, x12, x13, x14, x15]) (.int .i64 4)).run Try.prog w = .ok x4 w := by kernel_rfl
theorem Try.ix5 (x0 x1 x2 x3 x4 x5 x6 x7 x8 x9 x10 x11 x12 x13 x14 x15 : Value) (w : World) : (Instr.index 77 (.agg #[x0, x1, x2, x3, x4, x5, x6, x7, x8, x9, x10, x11, x12, x13, x14, x15]) (.int .i64 5)).run Try.prog w = .ok x5 w := by kernel_rfl
theorem Try.ix6 (x0 x1 x2 x3 x4 x5 x6 x7 x8 x9 x10 x11 x12 x13 x14 x15 : Value) (w : World) : (Instr.index 77 (.agg #[x0, x1, x2, x3, x4, x5, x6, x7, x8, x9, x10, x11, x12, x13, x14, x15]) (.int .i64 6)).run Try.prog w = .ok x6 w := by kernel_rfl
theorem Try.ix7 (x0 x1 x2 x3 x4 x5 x6 x7 x8 x9 x10 x11 x12 x13 x14 x15 : Value) (w : World) : (Instr.index 77 (.agg #[x0, x1, x2, x3, x4, x5, x6, x7, x8, x9, x10, x11, x12, x13, x14, x15]) (.int .i64 7)).run Try.prog w = .ok x7 w := by kernel_rfl
theorem Try.ix8 (x0 x1 x2 x3 x4 x5 x6 x7 x8 x9 x10 x11 x12 x13 x14 x15 : Value) (w : World) : (Instr.index 77 (.agg #[x0, x1, x2, x3, x4, x5, x6, x7, x8, x9, x10, x11, x12, x13, x14, x15]) (.int .i64 8)).run Try.prog w = .ok x8 w := by kernel_rfl
theorem Try.ix9 (x0 x1 x2 x3 x4 x5 x6 x7 x8 x9 x10 x11 x12 x13 x14 x15 : Value) (w : World) : (Instr.index 77 (.agg #[x0, x1, x2, x3, x4, x5, x6, x7, x8, x9, x10, x11, x12, x13, x14, x15]) (.int .i64 9)).run Try.prog w = .ok x9 w := by kernel_rfl
theorem Try.ix10 (x0 x1 x2 x3 x4 x5 x6 x7 x8 x9 x10 x11 x12 x13 x14 x15 : Value) (w : World) : (Instr.index 77 (.agg #[x0, x1, x2, x3, x4, x5, x6, x7, x8, x9, x10, x11, x12, x13, x14, x15]) (.int .i64 10)).run Try.prog w = .ok x10 w := by kernel_rfl
theorem Try.ix11 (x0 x1 x2 x3 x4 x5 x6 x7 x8 x9 x10 x11 x12 x13 x14 x15 : Value) (w : World) : (Instr.index 77 (.agg #[x0, x1, x2, x3, x4, x5, x6, x7, x8, x9, x10, x11, x12, x13, x14, x15]) (.int .i64 11)).run Try.prog w = .ok x11 w := by kernel_rfl
theorem Try.ix12 (x0 x1 x2 x3 x4 x5 x6 x7 x8 x9 x10 x11 x12 x13 x14 x15 : Value) (w : World) : (Instr.index 77 (.agg #[x0, x1, x2, x3, x4, x5, x6, x7, x8, x9, x10, x11, x12, x13, x14, x15]) (.int .i64 12)).run Try.prog w = .ok x12 w := by kernel_rfl
theorem Try.ix13 (x0 x1 x2 x3 x4 x5 x6 x7 x8 x9 x10 x11 x12 x13 x14 x15 : Value) (w : World) : (Instr.index 77 (.agg #[x0, x1, x2, x3, x4, x5, x6, x7, x8, x9, x10, x11, x12, x13, x14, x15]) (.int .i64 13)).run Try.prog w = .ok x13 w := by kernel_rfl
theorem Try.ix14 (x0 x1 x2 x3 x4 x5 x6 x7 x8 x9 x10 x11 x12 x13 x14 x15 : Value) (w : World) : (Instr.index 77 (.agg #[x0, x1, x2, x3, x4, x5, x6, x7, x8, x9, x10, x11, x12, x13, x14, x15]) (.int .i64 14)).run Try.prog w = .ok x14 w := by kernel_rfl
theorem Try.ix15 (x0 x1 x2 x3 x4 x5 x6 x7 x8 x9 x10 x11 x12 x13 x14 x15 : Value) (w : World) : (Instr.index 77 (.agg #[x0, x1, x2, x3, x4, x5, x6, x7, x8, x9, x10, x11, x12, x13, x14, x15]) (.int .i64 15)).run Try.prog w = .ok x15 w := by kernel_rfl

set_option maxRecDepth 100000 in
set_option maxHeartbeats 3200000 in
theorem numbers_any (code : List (List RIns)) (s : St) (model M : Nat) (w0 w : World) (h : PAt w0 w M model code s) (hS : SndC code) :
    Calls Try.prog 22 #[.pointer (some ⟨M, 0, none⟩)] w fun r w' => ∃ v, r = .returned v ∧ Own w' w.heap.size 3 v (endS code.length s) ∧ Below w.heap.size w w' := by
  obtain ⟨L, rfl, hI, hB, hO⟩ := h
  have c1 := hI.c1
  have hMl := hI.kM.lt
  have htl := hI.kt.lt
  have HI : Hid (PInv 79 82 98 w w0.heap.size L model code.length s.mem s.th) := hI
  have hl16 := hS.2.1
  clear hI hB hO
  go_enter Try.func22, Try.ntmps22
  go_wp2
  go_loopw [3, 14] (fun v i wr => ∃ k : Nat, k ≤ code.length ∧ i = .int .i64 k ∧ Own wr w.heap.size 3 v (regsTo s k) ∧ Below w.heap.size w wr) (fun _ i _ => code.length - (intOf i).toNat)
  case atStart => exact ⟨0, Nat.zero_le _, rfl, Own.nil _ _ _, Below.refl _ _⟩
  case round =>
    obtain ⟨k, hk, rfl, hown, hb⟩ := hrel
    have HB : Hid _ := hb
    have HO : Hid (Own wr w.heap.size 3 _ (regsTo s k)) := hown
    have hbs := hb.size
    have hrl := regsTo_length s k
    have HIR : Hid (PInv 79 82 98 wr w0.heap.size L model code.length s.mem s.th) := HI.out.kept hb
    have c1r := HIR.out.c1
    clear hb hown
    by_cases hlt : k < code.length
    · have tr := fun r hr => HIR.out.tr k r hlt hr
      have r0 := tr 0 (by omega)
      have r1 := tr 1 (by omega)
      have r2 := tr 2 (by omega)
      have r3 := tr 3 (by omega)
      have r4 := tr 4 (by omega)
      have r5 := tr 5 (by omega)
      have r6 := tr 6 (by omega)
      have r7 := tr 7 (by omega)
      have r8 := tr 8 (by omega)
      have r9 := tr 9 (by omega)
      have r10 := tr 10 (by omega)
      have r11 := tr 11 (by omega)
      have r12 := tr 12 (by omega)
      have r13 := tr 13 (by omega)
      have r14 := tr 14 (by omega)
      have r15 := tr 15 (by omega)
      simp only [Nat.add_assoc, Nat.reduceAdd, Nat.add_zero] at r0 r1 r2 r3 r4 r5 r6 r7 r8 r9 r10 r11 r12 r13 r14 r15
      have hrl : (regsTo s k).length ≤ 1000 := by omega
      clear tr
      go_wp2
      clear r0 r1 r2 r3 r4 r5 r6 r7 r8 r9 r10 r11 r12 r13 r14 r15 c1r
      go_loopw [3, 25] (fun v i wq => ∃ n : Nat, n ≤ 16 ∧ i = .int .i64 n ∧ Own wq w.heap.size 3 v (nmsTo s k n) ∧ Below w.heap.size w wq) (fun _ i _ => 16 - (intOf i).toNat)
      case atStart => exact ⟨0, Nat.zero_le _, rfl, by rw [nmsTo_zero]; exact HO.out, HB.out⟩
      case round =>
        obtain ⟨n, hn, rfl, hown3, hb3⟩ := hrel
        have HB3 : Hid _ := hb3
        have HO3 : Hid (Own wr w.heap.size 3 _ (nmsTo s k n)) := hown3
        have hbs3 := hb3.size
        have hl3 : (nmsTo s k n).length ≤ 1000000 := by unfold nmsTo; simp; omega
        have HS : Hid _ := nmsTo_succ s k n
        clear hown3 hb3
        by_cases hn16 : n < 16
        · rcases lt16 hn16 with rfl | rfl | rfl | rfl | rfl | rfl | rfl | rfl | rfl | rfl | rfl | rfl | rfl | rfl | rfl | rfl
          · have hix := Try.ix0
            go_wp2_with (at_builtin; go_must (refine wpList_pushN rfl _ _ 26 rfl w.heap.size w.heap.size w 3 Try.underlying26 Try.infoIntP _ _ _ (by rfl) (by rfl) HO3.out hl3 HB3.out (Nat.le_refl _) hbs3 ?_); intro v' w7 hown7 hb7 _; have HO7 : Hid _ := hown7; have HB7 : Hid _ := hb7; clear hown7 hb7)
            go_roundw
            case rel => exact ⟨1, by omega, by rfl, by have h : nmsTo s k 1 = _ := HS.out; rw [h]; exact HO7.out, HB7.out⟩
            case measure => simp [intOf]
          · have hix := Try.ix1
            go_wp2_with (at_builtin; go_must (refine wpList_pushN rfl _ _ 26 rfl w.heap.size w.heap.size w 3 Try.underlying26 Try.infoIntP _ _ _ (by rfl) (by rfl) HO3.out hl3 HB3.out (Nat.le_refl _) hbs3 ?_); intro v' w7 hown7 hb7 _; have HO7 : Hid _ := hown7; have HB7 : Hid _ := hb7; clear hown7 hb7)
            go_roundw
            case rel => exact ⟨2, by omega, by rfl, by have h : nmsTo s k 2 = _ := HS.out; rw [h]; exact HO7.out, HB7.out⟩
            case measure => simp [intOf]
          · have hix := Try.ix2
            go_wp2_with (at_builtin; go_must (refine wpList_pushN rfl _ _ 26 rfl w.heap.size w.heap.size w 3 Try.underlying26 Try.infoIntP _ _ _ (by rfl) (by rfl) HO3.out hl3 HB3.out (Nat.le_refl _) hbs3 ?_); intro v' w7 hown7 hb7 _; have HO7 : Hid _ := hown7; have HB7 : Hid _ := hb7; clear hown7 hb7)
            go_roundw
            case rel => exact ⟨3, by omega, by rfl, by have h : nmsTo s k 3 = _ := HS.out; rw [h]; exact HO7.out, HB7.out⟩
            case measure => simp [intOf]
          · have hix := Try.ix3
            go_wp2_with (at_builtin; go_must (refine wpList_pushN rfl _ _ 26 rfl w.heap.size w.heap.size w 3 Try.underlying26 Try.infoIntP _ _ _ (by rfl) (by rfl) HO3.out hl3 HB3.out (Nat.le_refl _) hbs3 ?_); intro v' w7 hown7 hb7 _; have HO7 : Hid _ := hown7; have HB7 : Hid _ := hb7; clear hown7 hb7)
            go_roundw
            case rel => exact ⟨4, by omega, by rfl, by have h : nmsTo s k 4 = _ := HS.out; rw [h]; exact HO7.out, HB7.out⟩
            case measure => simp [intOf]
          · have hix := Try.ix4
            go_wp2_with (at_builtin; go_must (refine wpList_pushN rfl _ _ 26 rfl w.heap.size w.heap.size w 3 Try.underlying26 Try.infoIntP _ _ _ (by rfl) (by rfl) HO3.out hl3 HB3.out (Nat.le_refl _) hbs3 ?_); intro v' w7 hown7 hb7 _; have HO7 : Hid _ := hown7; have HB7 : Hid _ := hb7; clear hown7 hb7)
            go_roundw
            case rel => exact ⟨5, by omega, by rfl, by have h : nmsTo s k 5 = _ := HS.out; rw [h]; exact HO7.out, HB7.out⟩
            case measure => simp [intOf]
          · have hix := Try.ix5
            go_wp2_with (at_builtin; go_must (refine wpList_pushN rfl _ _ 26 rfl w.heap.size w.heap.size w 3 Try.underlying26 Try.infoIntP _ _ _ (by rfl) (by rfl) HO3.out hl3 HB3.out (Nat.le_refl _) hbs3 ?_); intro v' w7 hown7 hb7 _; have HO7 : Hid _ := hown7; have HB7 : Hid _ := hb7; clear hown7 hb7)
            go_roundw
            case rel => exact ⟨6, by omega, by rfl, by have h : nmsTo s k 6 = _ := HS.out; rw [h]; exact HO7.out, HB7.out⟩
            case measure => simp [intOf]
          · have hix := Try.ix6
            go_wp2_with (at_builtin; go_must (refine wpList_pushN rfl _ _ 26 rfl w.heap.size w.heap.size w 3 Try.underlying26 Try.infoIntP _ _ _ (by rfl) (by rfl) HO3.out hl3 HB3.out (Nat.le_refl _) hbs3 ?_); intro v' w7 hown7 hb7 _; have HO7 : Hid _ := hown7; have HB7 : Hid _ := hb7; clear hown7 hb7)
            go_roundw
            case rel => exact ⟨7, by omega, by rfl, by have h : nmsTo s k 7 = _ := HS.out; rw [h]; exact HO7.out, HB7.out⟩
            case measure => simp [intOf]
          · have hix := Try.ix7
            go_wp2_with (at_builtin; go_must (refine wpList_pushN rfl _ _ 26 rfl w.heap.size w.heap.size w 3 Try.underlying26 Try.infoIntP _ _ _ (by rfl) (by rfl) HO3.out hl3 HB3.out (Nat.le_refl _) hbs3 ?_); intro v' w7 hown7 hb7 _; have HO7 : Hid _ := hown7; have HB7 : Hid _ := hb7; clear hown7 hb7)
            go_roundw
            case rel => exact ⟨8, by omega, by rfl, by have h : nmsTo s k 8 = _ := HS.out; rw [h]; exact HO7.out, HB7.out⟩
            case measure => simp [intOf]
          · have hix := Try.ix8
            go_wp2_with (at_builtin; go_must (refine wpList_pushN rfl _ _ 26 rfl w.heap.size w.heap.size w 3 Try.underlying26 Try.infoIntP _ _ _ (by rfl) (by rfl) HO3.out hl3 HB3.out (Nat.le_refl _) hbs3 ?_); intro v' w7 hown7 hb7 _; have HO7 : Hid _ := hown7; have HB7 : Hid _ := hb7; clear hown7 hb7)
            go_roundw
            case rel => exact ⟨9, by omega, by rfl, by have h : nmsTo s k 9 = _ := HS.out; rw [h]; exact HO7.out, HB7.out⟩
            case measure => simp [intOf]
          · have hix := Try.ix9
            go_wp2_with (at_builtin; go_must (refine wpList_pushN rfl _ _ 26 rfl w.heap.size w.heap.size w 3 Try.underlying26 Try.infoIntP _ _ _ (by rfl) (by rfl) HO3.out hl3 HB3.out (Nat.le_refl _) hbs3 ?_); intro v' w7 hown7 hb7 _; have HO7 : Hid _ := hown7; have HB7 : Hid _ := hb7; clear hown7 hb7)
            go_roundw
            case rel => exact ⟨10, by omega, by rfl, by have h : nmsTo s k 10 = _ := HS.out; rw [h]; exact HO7.out, HB7.out⟩
            case measure => simp [intOf]
          · have hix := Try.ix10
            go_wp2_with (at_builtin; go_must (refine wpList_pushN rfl _ _ 26 rfl w.heap.size w.heap.size w 3 Try.underlying26 Try.infoIntP _ _ _ (by rfl) (by rfl) HO3.out hl3 HB3.out (Nat.le_refl _) hbs3 ?_); intro v' w7 hown7 hb7 _; have HO7 : Hid _ := hown7; have HB7 : Hid _ := hb7; clear hown7 hb7)
            go_roundw
            case rel => exact ⟨11, by omega, by rfl, by have h : nmsTo s k 11 = _ := HS.out; rw [h]; exact HO7.out, HB7.out⟩
            case measure => simp [intOf]
          · have hix := Try.ix11
            go_wp2_with (at_builtin; go_must (refine wpList_pushN rfl _ _ 26 rfl w.heap.size w.heap.size w 3 Try.underlying26 Try.infoIntP _ _ _ (by rfl) (by rfl) HO3.out hl3 HB3.out (Nat.le_refl _) hbs3 ?_); intro v' w7 hown7 hb7 _; have HO7 : Hid _ := hown7; have HB7 : Hid _ := hb7; clear hown7 hb7)
            go_roundw
            case rel => exact ⟨12, by omega, by rfl, by have h : nmsTo s k 12 = _ := HS.out; rw [h]; exact HO7.out, HB7.out⟩
            case measure => simp [intOf]
          · have hix := Try.ix12
            go_wp2_with (at_builtin; go_must (refine wpList_pushN rfl _ _ 26 rfl w.heap.size w.heap.size w 3 Try.underlying26 Try.infoIntP _ _ _ (by rfl) (by rfl) HO3.out hl3 HB3.out (Nat.le_refl _) hbs3 ?_); intro v' w7 hown7 hb7 _; have HO7 : Hid _ := hown7; have HB7 : Hid _ := hb7; clear hown7 hb7)
            go_roundw
            case rel => exact ⟨13, by omega, by rfl, by have h : nmsTo s k 13 = _ := HS.out; rw [h]; exact HO7.out, HB7.out⟩
            case measure => simp [intOf]
          · have hix := Try.ix13
            go_wp2_with (at_builtin; go_must (refine wpList_pushN rfl _ _ 26 rfl w.heap.size w.heap.size w 3 Try.underlying26 Try.infoIntP _ _ _ (by rfl) (by rfl) HO3.out hl3 HB3.out (Nat.le_refl _) hbs3 ?_); intro v' w7 hown7 hb7 _; have HO7 : Hid _ := hown7; have HB7 : Hid _ := hb7; clear hown7 hb7)
            go_roundw
            case rel => exact ⟨14, by omega, by rfl, by have h : nmsTo s k 14 = _ := HS.out; rw [h]; exact HO7.out, HB7.out⟩
            case measure => simp [intOf]
          · have hix := Try.ix14
            go_wp2_with (at_builtin; go_must (refine wpList_pushN rfl _ _ 26 rfl w.heap.size w.heap.size w 3 Try.underlying26 Try.infoIntP _ _ _ (by rfl) (by rfl) HO3.out hl3 HB3.out (Nat.le_refl _) hbs3 ?_); intro v' w7 hown7 hb7 _; have HO7 : Hid _ := hown7; have HB7 : Hid _ := hb7; clear hown7 hb7)
            go_roundw
            case rel => exact ⟨15, by omega, by rfl, by have h : nmsTo s k 15 = _ := HS.out; rw [h]; exact HO7.out, HB7.out⟩
            case measure => simp [intOf]
          · have hix := Try.ix15
            go_wp2_with (at_builtin; go_must (refine wpList_pushN rfl _ _ 26 rfl w.heap.size w.heap.size w 3 Try.underlying26 Try.infoIntP _ _ _ (by rfl) (by rfl) HO3.out hl3 HB3.out (Nat.le_refl _) hbs3 ?_); intro v' w7 hown7 hb7 _; have HO7 : Hid _ := hown7; have HB7 : Hid _ := hb7; clear hown7 hb7)
            go_roundw
            case rel => exact ⟨16, by omega, by rfl, by have h : nmsTo s k 16 = _ := HS.out; rw [h]; exact HO7.out, HB7.out⟩
            case measure => simp [intOf]
        · have : n = 16 := by omega
          subst this
          rw [nmsTo_all] at HO3
          go_wp2
          go_roundw
          case rel => exact ⟨k + 1, by omega, by go_num, HO3.out, HB3.out⟩
          case measure => simp [intOf]; omega
    · have hke : k = code.length := by omega
      subst hke
      have cm := HIR.out.cm
      have r0 := cm 0 (by omega)
      have r1 := cm 1 (by omega)
      have r2 := cm 2 (by omega)
      have r3 := cm 3 (by omega)
      have r4 := cm 4 (by omega)
      have r5 := cm 5 (by omega)
      have r6 := cm 6 (by omega)
      have r7 := cm 7 (by omega)
      have r8 := cm 8 (by omega)
      have r9 := cm 9 (by omega)
      have r10 := cm 10 (by omega)
      have r11 := cm 11 (by omega)
      have r12 := cm 12 (by omega)
      have r13 := cm 13 (by omega)
      have r14 := cm 14 (by omega)
      have r15 := cm 15 (by omega)
      simp only [Nat.reduceAdd, Nat.add_zero] at r0 r1 r2 r3 r4 r5 r6 r7 r8 r9 r10 r11 r12 r13 r14 r15
      clear cm
      go_wp2
      clear r0 r1 r2 r3 r4 r5 r6 r7 r8 r9 r10 r11 r12 r13 r14 r15 c1r
      go_loopw [3, 38] (fun v i wq => ∃ n : Nat, n ≤ 16 ∧ i = .int .i64 n ∧ Own wq w.heap.size 3 v (celTo s code.length n) ∧ Below w.heap.size w wq) (fun _ i _ => 16 - (intOf i).toNat)
      case atStart => exact ⟨0, Nat.zero_le _, rfl, by rw [celTo_zero]; exact HO.out, HB.out⟩
      case round =>
        obtain ⟨n, hn, rfl, hown3, hb3⟩ := hrel
        have HB3 : Hid _ := hb3
        have HO3 : Hid (Own wr w.heap.size 3 _ (celTo s code.length n)) := hown3
        have hbs3 := hb3.size
        have hl3 : (celTo s code.length n).length ≤ 1000000 := by unfold celTo; simp [regsTo_length]; omega
        have HS : Hid _ := celTo_succ s code.length n
        clear hown3 hb3
        by_cases hn16 : n < 16
        · rcases lt16 hn16 with rfl | rfl | rfl | rfl | rfl | rfl | rfl | rfl | rfl | rfl | rfl | rfl | rfl | rfl | rfl | rfl
          · have hix := Try.ix0
            go_wp2_with (at_builtin; go_must (refine wpList_pushN rfl _ _ 26 rfl w.heap.size w.heap.size w 3 Try.underlying26 Try.infoIntP _ _ _ (by rfl) (by rfl) HO3.out hl3 HB3.out (Nat.le_refl _) hbs3 ?_); intro v' w7 hown7 hb7 _; have HO7 : Hid _ := hown7; have HB7 : Hid _ := hb7; clear hown7 hb7)
            go_roundw
            case rel => exact ⟨1, by omega, by rfl, by have h : celTo s code.length 1 = _ := HS.out; rw [h]; exact HO7.out, HB7.out⟩
            case measure => simp [intOf]
          · have hix := Try.ix1
            go_wp2_with (at_builtin; go_must (refine wpList_pushN rfl _ _ 26 rfl w.heap.size w.heap.size w 3 Try.underlying26 Try.infoIntP _ _ _ (by rfl) (by rfl) HO3.out hl3 HB3.out (Nat.le_refl _) hbs3 ?_); intro v' w7 hown7 hb7 _; have HO7 : Hid _ := hown7; have HB7 : Hid _ := hb7; clear hown7 hb7)
            go_roundw
            case rel => exact ⟨2, by omega, by rfl, by have h : celTo s code.length 2 = _ := HS.out; rw [h]; exact HO7.out, HB7.out⟩
            case measure => simp [intOf]
          · have hix := Try.ix2
            go_wp2_with (at_builtin; go_must (refine wpList_pushN rfl _ _ 26 rfl w.heap.size w.heap.size w 3 Try.underlying26 Try.infoIntP _ _ _ (by rfl) (by rfl) HO3.out hl3 HB3.out (Nat.le_refl _) hbs3 ?_); intro v' w7 hown7 hb7 _; have HO7 : Hid _ := hown7; have HB7 : Hid _ := hb7; clear hown7 hb7)
            go_roundw
            case rel => exact ⟨3, by omega, by rfl, by have h : celTo s code.length 3 = _ := HS.out; rw [h]; exact HO7.out, HB7.out⟩
            case measure => simp [intOf]
          · have hix := Try.ix3
            go_wp2_with (at_builtin; go_must (refine wpList_pushN rfl _ _ 26 rfl w.heap.size w.heap.size w 3 Try.underlying26 Try.infoIntP _ _ _ (by rfl) (by rfl) HO3.out hl3 HB3.out (Nat.le_refl _) hbs3 ?_); intro v' w7 hown7 hb7 _; have HO7 : Hid _ := hown7; have HB7 : Hid _ := hb7; clear hown7 hb7)
            go_roundw
            case rel => exact ⟨4, by omega, by rfl, by have h : celTo s code.length 4 = _ := HS.out; rw [h]; exact HO7.out, HB7.out⟩
            case measure => simp [intOf]
          · have hix := Try.ix4
            go_wp2_with (at_builtin; go_must (refine wpList_pushN rfl _ _ 26 rfl w.heap.size w.heap.size w 3 Try.underlying26 Try.infoIntP _ _ _ (by rfl) (by rfl) HO3.out hl3 HB3.out (Nat.le_refl _) hbs3 ?_); intro v' w7 hown7 hb7 _; have HO7 : Hid _ := hown7; have HB7 : Hid _ := hb7; clear hown7 hb7)
            go_roundw
            case rel => exact ⟨5, by omega, by rfl, by have h : celTo s code.length 5 = _ := HS.out; rw [h]; exact HO7.out, HB7.out⟩
            case measure => simp [intOf]
          · have hix := Try.ix5
            go_wp2_with (at_builtin; go_must (refine wpList_pushN rfl _ _ 26 rfl w.heap.size w.heap.size w 3 Try.underlying26 Try.infoIntP _ _ _ (by rfl) (by rfl) HO3.out hl3 HB3.out (Nat.le_refl _) hbs3 ?_); intro v' w7 hown7 hb7 _; have HO7 : Hid _ := hown7; have HB7 : Hid _ := hb7; clear hown7 hb7)
            go_roundw
            case rel => exact ⟨6, by omega, by rfl, by have h : celTo s code.length 6 = _ := HS.out; rw [h]; exact HO7.out, HB7.out⟩
            case measure => simp [intOf]
          · have hix := Try.ix6
            go_wp2_with (at_builtin; go_must (refine wpList_pushN rfl _ _ 26 rfl w.heap.size w.heap.size w 3 Try.underlying26 Try.infoIntP _ _ _ (by rfl) (by rfl) HO3.out hl3 HB3.out (Nat.le_refl _) hbs3 ?_); intro v' w7 hown7 hb7 _; have HO7 : Hid _ := hown7; have HB7 : Hid _ := hb7; clear hown7 hb7)
            go_roundw
            case rel => exact ⟨7, by omega, by rfl, by have h : celTo s code.length 7 = _ := HS.out; rw [h]; exact HO7.out, HB7.out⟩
            case measure => simp [intOf]
          · have hix := Try.ix7
            go_wp2_with (at_builtin; go_must (refine wpList_pushN rfl _ _ 26 rfl w.heap.size w.heap.size w 3 Try.underlying26 Try.infoIntP _ _ _ (by rfl) (by rfl) HO3.out hl3 HB3.out (Nat.le_refl _) hbs3 ?_); intro v' w7 hown7 hb7 _; have HO7 : Hid _ := hown7; have HB7 : Hid _ := hb7; clear hown7 hb7)
            go_roundw
            case rel => exact ⟨8, by omega, by rfl, by have h : celTo s code.length 8 = _ := HS.out; rw [h]; exact HO7.out, HB7.out⟩
            case measure => simp [intOf]
          · have hix := Try.ix8
            go_wp2_with (at_builtin; go_must (refine wpList_pushN rfl _ _ 26 rfl w.heap.size w.heap.size w 3 Try.underlying26 Try.infoIntP _ _ _ (by rfl) (by rfl) HO3.out hl3 HB3.out (Nat.le_refl _) hbs3 ?_); intro v' w7 hown7 hb7 _; have HO7 : Hid _ := hown7; have HB7 : Hid _ := hb7; clear hown7 hb7)
            go_roundw
            case rel => exact ⟨9, by omega, by rfl, by have h : celTo s code.length 9 = _ := HS.out; rw [h]; exact HO7.out, HB7.out⟩
            case measure => simp [intOf]
          · have hix := Try.ix9
            go_wp2_with (at_builtin; go_must (refine wpList_pushN rfl _ _ 26 rfl w.heap.size w.heap.size w 3 Try.underlying26 Try.infoIntP _ _ _ (by rfl) (by rfl) HO3.out hl3 HB3.out (Nat.le_refl _) hbs3 ?_); intro v' w7 hown7 hb7 _; have HO7 : Hid _ := hown7; have HB7 : Hid _ := hb7; clear hown7 hb7)
            go_roundw
            case rel => exact ⟨10, by omega, by rfl, by have h : celTo s code.length 10 = _ := HS.out; rw [h]; exact HO7.out, HB7.out⟩
            case measure => simp [intOf]
          · have hix := Try.ix10
            go_wp2_with (at_builtin; go_must (refine wpList_pushN rfl _ _ 26 rfl w.heap.size w.heap.size w 3 Try.underlying26 Try.infoIntP _ _ _ (by rfl) (by rfl) HO3.out hl3 HB3.out (Nat.le_refl _) hbs3 ?_); intro v' w7 hown7 hb7 _; have HO7 : Hid _ := hown7; have HB7 : Hid _ := hb7; clear hown7 hb7)
            go_roundw
            case rel => exact ⟨11, by omega, by rfl, by have h : celTo s code.length 11 = _ := HS.out; rw [h]; exact HO7.out, HB7.out⟩
            case measure => simp [intOf]
          · have hix := Try.ix11
            go_wp2_with (at_builtin; go_must (refine wpList_pushN rfl _ _ 26 rfl w.heap.size w.heap.size w 3 Try.underlying26 Try.infoIntP _ _ _ (by rfl) (by rfl) HO3.out hl3 HB3.out (Nat.le_refl _) hbs3 ?_); intro v' w7 hown7 hb7 _; have HO7 : Hid _ := hown7; have HB7 : Hid _ := hb7; clear hown7 hb7)
            go_roundw
            case rel => exact ⟨12, by omega, by rfl, by have h : celTo s code.length 12 = _ := HS.out; rw [h]; exact HO7.out, HB7.out⟩
            case measure => simp [intOf]
          · have hix := Try.ix12
            go_wp2_with (at_builtin; go_must (refine wpList_pushN rfl _ _ 26 rfl w.heap.size w.heap.size w 3 Try.underlying26 Try.infoIntP _ _ _ (by rfl) (by rfl) HO3.out hl3 HB3.out (Nat.le_refl _) hbs3 ?_); intro v' w7 hown7 hb7 _; have HO7 : Hid _ := hown7; have HB7 : Hid _ := hb7; clear hown7 hb7)
            go_roundw
            case rel => exact ⟨13, by omega, by rfl, by have h : celTo s code.length 13 = _ := HS.out; rw [h]; exact HO7.out, HB7.out⟩
            case measure => simp [intOf]
          · have hix := Try.ix13
            go_wp2_with (at_builtin; go_must (refine wpList_pushN rfl _ _ 26 rfl w.heap.size w.heap.size w 3 Try.underlying26 Try.infoIntP _ _ _ (by rfl) (by rfl) HO3.out hl3 HB3.out (Nat.le_refl _) hbs3 ?_); intro v' w7 hown7 hb7 _; have HO7 : Hid _ := hown7; have HB7 : Hid _ := hb7; clear hown7 hb7)
            go_roundw
            case rel => exact ⟨14, by omega, by rfl, by have h : celTo s code.length 14 = _ := HS.out; rw [h]; exact HO7.out, HB7.out⟩
            case measure => simp [intOf]
          · have hix := Try.ix14
            go_wp2_with (at_builtin; go_must (refine wpList_pushN rfl _ _ 26 rfl w.heap.size w.heap.size w 3 Try.underlying26 Try.infoIntP _ _ _ (by rfl) (by rfl) HO3.out hl3 HB3.out (Nat.le_refl _) hbs3 ?_); intro v' w7 hown7 hb7 _; have HO7 : Hid _ := hown7; have HB7 : Hid _ := hb7; clear hown7 hb7)
            go_roundw
            case rel => exact ⟨15, by omega, by rfl, by have h : celTo s code.length 15 = _ := HS.out; rw [h]; exact HO7.out, HB7.out⟩
            case measure => simp [intOf]
          · have hix := Try.ix15
            go_wp2_with (at_builtin; go_must (refine wpList_pushN rfl _ _ 26 rfl w.heap.size w.heap.size w 3 Try.underlying26 Try.infoIntP _ _ _ (by rfl) (by rfl) HO3.out hl3 HB3.out (Nat.le_refl _) hbs3 ?_); intro v' w7 hown7 hb7 _; have HO7 : Hid _ := hown7; have HB7 : Hid _ := hb7; clear hown7 hb7)
            go_roundw
            case rel => exact ⟨16, by omega, by rfl, by have h : celTo s code.length 16 = _ := HS.out; rw [h]; exact HO7.out, HB7.out⟩
            case measure => simp [intOf]
        · have : n = 16 := by omega
          subst this
          go_wp2
          go_ret
          exact ⟨_, rfl, HO3.out, HB3.out⟩

end Go.Proofs.Ytokfiflflcfidab
