import Derived.Test.YtokfiflflcfidabRows
import Derived.Test.YtokfiflflcfidabPMX
import Derived.WalkKit
import Derived.WalkSpells
import Derived.WalkLawsBesides
import Derived.RegionTactic
import Derived.BigRegion
import Derived.Deep.RegionHeld3
import Derived.Deep.DrawnRows
import Derived.Deep.QuietTactic
import Derived.BigQuiet
namespace Go.Proofs.Ytokfiflflcfidab
open Go.RowKit
attribute [local go_sem ↓] Go.wp_at_zero Go.wp_at_succ

/-- the memory and thread k behind an instruction -/
def insM (x : RIns) (model : Nat) (mem : Nat → Nat) : Nat → Nat := if x.op = 1 ∧ model = 0 then updN mem x.cell x.val else mem
def insT (x : RIns) (model : Nat) (mem : Nat → Nat) (th : Nat → Th) (k : Nat) : Th :=
  ⟨(th k).pc, if x.op = 2 then (th k).regs.set x.reg (loadS mem th k x.cell) else (th k).regs, if x.op = 1 ∧ model = 1 then (th k).buf ++ [x] else (th k).buf⟩
theorem updN_self (th : Nat → Th) (k : Nat) : updN th k (th k) = th := by funext j; unfold updN; split <;> simp_all

theorem Try.infoHeld : (Try.prog.info? 98).map (fun i => (i.zero, i.size, i.bytes)) = some (some (.agg #[.int .i64 0, .int .i64 0]), 2, 16) := by kernel_rfl

set_option maxRecDepth 100000 in
set_option maxHeartbeats 800000 in
theorem pstep_any0 (n : Nat) (mem : Nat → Nat) (th : Nat → Th) (k base model : Nat) (L : PLoc) (w : World) (hI : PInv 79 82 98 w base L model n mem th)
    (hk : k < n) (x : RIns) (hc : x.cell < 16) (hr : x.reg < 16) (hrl : (th k).regs.length = 16) (hbl : (th k).buf.length ≤ 32) (hop : x.op = 3 ∨ x.op = 2 ∨ (x.op = 1 ∧ model = 0)) :
    Calls Try.prog 42 #[.pointer (some ⟨L.M, 0, none⟩), .pointer (some ⟨L.gt, k * 18, none⟩), .agg #[.int .i64 x.op, .int .i64 x.reg, .int .i64 x.cell, .int .i64 x.val]] w fun r w' => r = .returned (.tuple #[]) ∧
      PMoved 79 82 98 w w' base L model n (insM x model mem) (updN th k (insT x model mem th k)) := by
  have hal : ∀ (W : World) (o : Obj), PInv 79 82 98 W base L model n mem th → PInv 79 82 98 (W.alloc o) base L model n mem th := fun W o h => h.kept ((Below.refl _ _).alloc (Nat.le_refl _) o)
  have c0 := hI.c0
  have hMl := hI.kM.lt
  have htl := hI.kt.lt
  have hMn : ¬ (L.M = w.heap.size) := by omega
  have htn : ¬ (L.gt = w.heap.size) := by omega
  have hsz := hI.size
  rcases hop with h | h | ⟨h, hm⟩
  · have HE : Hid (insM x model mem = mem ∧ updN th k (insT x model mem th k) = th) := by
      refine ⟨by unfold insM; rw [h]; simp, ?_⟩
      have : insT x model mem th k = th k := by unfold insT; rw [h]; simp
      rw [this, updN_self]
    have HA : Hid (∀ o, PInv 79 82 98 (w.alloc o) base L model n mem th ∧ Below base w (w.alloc o) ∧ PFr 79 82 98 w (w.alloc o)) := fun o => ⟨hal w o hI, (Below.refl _ _).alloc hsz _, PFr.alloc w o⟩
    rw [h]
    clear hI hal
    go_enter Try.func42, Try.ntmps42
    go_wp2
    go_end0
    exact ⟨rfl, L, rfl, by rw [HE.out.1, HE.out.2]; exact (HA.out _).1, (HA.out _).2.1, (HA.out _).2.2⟩
  · have HE : Hid (insM x model mem = mem ∧ insT x model mem th k = { th k with regs := (th k).regs.set x.reg (loadS mem th k x.cell) }) := by
      refine ⟨by unfold insM; rw [h]; simp, ?_⟩
      unfold insT; rw [h]; simp
    have HSN : Hid (∀ o, Calls Try.prog 49 #[.pointer (some ⟨L.M, 0, none⟩), .pointer (some ⟨L.gt, k * 18, none⟩), .int .i64 x.cell] (w.alloc o) fun r w' => r = .returned (.int .i64 ((loadS mem th k x.cell : Nat) : Int)) ∧ w' = w.alloc o) := fun o => pseen_any n mem th k x.cell base model L _ (hal w o hI) hk hc (by omega)
    have HST : Hid (∀ (o : Obj) (m : Nat), PInv 79 82 98 (((w.setCell ⟨L.gt, k * 18 + 1 + x.reg, none⟩ (.int .i64 ((loadS mem th k x.cell : Nat) : Int))).alloc o).drewN m) base L model n mem (updN th k { th k with regs := (th k).regs.set x.reg (loadS mem th k x.cell) }) ∧ Below base w (((w.setCell ⟨L.gt, k * 18 + 1 + x.reg, none⟩ (.int .i64 ((loadS mem th k x.cell : Nat) : Int))).alloc o).drewN m) ∧ PFr 79 82 98 w (((w.setCell ⟨L.gt, k * 18 + 1 + x.reg, none⟩ (.int .i64 ((loadS mem th k x.cell : Nat) : Int))).alloc o).drewN m)) :=
      fun o m => ⟨((hI.setReg hk hr hrl (loadS mem th k x.cell)).kept ((Below.refl _ _).alloc (Nat.le_refl _) o)).drew m, below_drewN (((Below.refl base w).setCell (p := ⟨L.gt, k * 18 + 1 + x.reg, none⟩) hI.bt _).alloc (by simp; exact hsz) o) m, ((PFr.set hI.kt (Or.inr (Or.inl rfl)) _ _).trans (PFr.alloc _ o)).trans (PFr.drew _ m)⟩
    have tr := hI.tr k x.reg hk hr
    have hf := hI.kt.free (k * 18 + 1 + x.reg)
    have hri : (x.reg : Int) < 16 := by omega
    rw [h]
    clear hI hal
    generalize loadS mem th k x.cell = lv at *
    go_enter Try.func42, Try.ntmps42
    go_wp2_with fail
    refine Calls.mono (HSN.out _) ?_
    rintro r w1 ⟨rfl, rfl⟩
    go_wp2_with (go_at_call 44; refine (isReg_m x.reg hr _).mono ?_; rintro r w1 ⟨rfl, rfl⟩)
    go_region
    go_wp2
    go_end0
    exact ⟨rfl, L, rfl, by rw [HE.out.1, HE.out.2]; exact (HST.out _ 1).1, (HST.out _ 1).2.1, (HST.out _ 1).2.2⟩
  · subst hm
    have HE : Hid (insM x 0 mem = updN mem x.cell x.val ∧ updN th k (insT x 0 mem th k) = th) := by
      refine ⟨by unfold insM; rw [h]; simp, ?_⟩
      have : insT x 0 mem th k = th k := by unfold insT; rw [h]; simp
      rw [this, updN_self]
    have HWR : Hid (∀ o, Calls Try.prog 48 #[.pointer (some ⟨L.M, 0, none⟩), .int .i64 x.cell, .int .i64 x.val] (w.alloc o) fun r w' => r = .returned (.tuple #[]) ∧ w' = (w.alloc o).setCell ⟨L.M, 2 + x.cell, none⟩ (.int .i64 x.val)) := fun o => pwrite_any n mem th x.cell x.val base 0 L _ (hal w o hI) hc
    have HST : Hid (∀ o, PInv 79 82 98 ((w.setCell ⟨L.M, 2 + x.cell, none⟩ (.int .i64 (x.val : Int))).alloc o) base L 0 n (updN mem x.cell x.val) th ∧ Below base w ((w.setCell ⟨L.M, 2 + x.cell, none⟩ (.int .i64 (x.val : Int))).alloc o) ∧ PFr 79 82 98 w ((w.setCell ⟨L.M, 2 + x.cell, none⟩ (.int .i64 (x.val : Int))).alloc o)) :=
      fun o => ⟨(hI.setMem hc x.val).kept ((Below.refl _ _).alloc (Nat.le_refl _) o), ((Below.refl base w).setCell (p := ⟨L.M, 2 + x.cell, none⟩) hI.bM _).alloc (by simp; exact hsz) o, (PFr.set hI.kM (Or.inl rfl) _ _).trans (PFr.alloc _ o)⟩
    rw [h]
    clear hI hal
    go_enter Try.func42, Try.ntmps42
    go_wp2_with fail
    refine Calls.mono (HWR.out _) ?_
    rintro r w1 ⟨rfl, rfl⟩
    go_wp2
    go_end0
    exact ⟨rfl, L, rfl, by rw [HE.out.1, HE.out.2]; exact (HST.out _).1, (HST.out _).2.1, (HST.out _).2.2⟩

set_option maxRecDepth 100000 in
set_option maxHeartbeats 8000000 in
theorem pstep_any1 (n : Nat) (mem : Nat → Nat) (th : Nat → Th) (k base : Nat) (L : PLoc) (w : World) (hI : PInv 79 82 98 w base L 1 n mem th)
    (hk : k < n) (x : RIns) (hbl : (th k).buf.length ≤ 32) (h : x.op = 1) :
    Calls Try.prog 42 #[.pointer (some ⟨L.M, 0, none⟩), .pointer (some ⟨L.gt, k * 18, none⟩), .agg #[.int .i64 x.op, .int .i64 x.reg, .int .i64 x.cell, .int .i64 x.val]] w fun r w' => r = .returned (.tuple #[]) ∧
      PMoved 79 82 98 w w' base L 1 n (insM x 1 mem) (updN th k (insT x 1 mem th k)) := by
  have hbA : Below base w (w.alloc (.cells #[.int .i64 1, .int .i64 x.reg, .int .i64 x.cell, .int .i64 x.val] 57)) := (Below.refl _ _).alloc hI.size _
  have hIA := hI.kept ((Below.refl _ _).alloc (Nat.le_refl _) (.cells #[.int .i64 1, .int .i64 x.reg, .int .i64 x.cell, .int .i64 x.val] 57))
  have c0 := hI.c0
  have hMl := hI.kM.lt
  have htl := hI.kt.lt
  have hMn : ¬ (L.M = w.heap.size) := by omega
  have htn : ¬ (L.gt = w.heap.size) := by omega
  have hbt := hI.bt
  have hsz := hI.size
  have HE : Hid (insM x 1 mem = mem ∧ insT x 1 mem th k = { th k with buf := (th k).buf ++ [x] }) := by
    refine ⟨by unfold insM; rw [h]; simp, ?_⟩
    unfold insT; rw [h]; simp
  have HBO : Hid ((L.bv k).ownBlock ≠ some w.heap.size) := fun e => Nat.lt_irrefl _ (hI.kb k _ hk e).lt
  obtain ⟨i0, hi, hz0, hz1, hz2⟩ := info_parts Try.infoHeld
  obtain ⟨W, hW⟩ : ∃ W, W = w.alloc (.cells #[.int .i64 1, .int .i64 x.reg, .int .i64 x.cell, .int .i64 x.val] 57) := ⟨_, rfl⟩
  rw [← hW] at hbA hIA
  have hWs : W.heap.size = w.heap.size + 1 := by rw [hW]; simp
  have z0 : W.cell? ⟨w.heap.size, 0, none⟩ = some (.int .i64 1) := by rw [hW]; simp
  have z2 : W.cell? ⟨w.heap.size, 2, none⟩ = some (.int .i64 (x.cell : Int)) := by rw [hW]; simp
  have z3 : W.cell? ⟨w.heap.size, 3, none⟩ = some (.int .i64 (x.val : Int)) := by rw [hW]; simp
  have HN2 : Hid (∀ (m j : Nat) (u : Value), (hldCells x)[j]? = some u → ((W.alloc (.cells #[.int .i64 (x.cell : Int), .int .i64 (x.val : Int)] 98)).drewN m).cell? ((⟨w.heap.size + 1, 0, none⟩ : Addr).add j) = some u) := by
    intro m j u hu
    rw [addr_addP, ← hWs]
    match j, hu with
    | 0, hu => simp [hldCells] at hu; subst hu; simp
    | 1, hu => simp [hldCells] at hu; subst hu; simp
  have HK2 : Hid (∀ (o : Obj) (m : Nat), PInv 79 82 98 ((W.alloc o).drewN m) base L 1 n mem th) := fun o m => (hIA.kept ((Below.refl _ _).alloc (Nat.le_refl _) o)).drew m
  have HBW : Hid (∀ (o : Obj) (m : Nat) (w5 : World), Below base ((W.alloc o).drewN m) w5 → Below base w w5) := fun o m w5 h => (below_drewN (hbA.alloc (by omega) o) m).trans h
  have hFW : PFr 79 82 98 w W := by rw [hW]; exact PFr.alloc _ _
  have HFW : Hid (∀ (o : Obj) (m : Nat) (w5 : World), PFr 79 82 98 ((W.alloc o).drewN m) w5 → PFr 79 82 98 w w5) := fun o m w5 h => ((hFW.trans (PFr.alloc _ o)).trans (PFr.drew _ m)).trans h
  clear hFW
  have HEND : Hid (∀ (w4 : World) (v' : Value), PInv 79 82 98 w4 base L 1 n mem th → Buf2 w4 v' ((th k).buf ++ [x]) → (∀ b, v'.ownBlock = some b → Blk w4 b 98 ∧ base ≤ b ∧ ∀ j, j < n → j ≠ k → (L.bv j).ownBlock ≠ some b) → Below base w w4 → PFr 79 82 98 w w4 →
      PMoved 79 82 98 w (w4.setCell ⟨L.gt, k * 18 + 17, none⟩ v') base L 1 n (insM x 1 mem) (updN th k (insT x 1 mem th k))) := by
    intro w4 v' q1 q2 q3 q4 q6
    rw [HE.out.1, HE.out.2]
    exact ⟨{ L with bv := updN L.bv k v' }, rfl, q1.setBuf hk v' _ q2 q3, q4.setCell (p := ⟨L.gt, k * 18 + 17, none⟩) hbt _, q6.trans (PFr.set q1.kt (Or.inr (Or.inl rfl)) _ _)⟩
  have t2 := hIA.t2 k hk
  have hft2 := hIA.kt.free (k * 18 + 17)
  have hWt : L.gt < W.heap.size := hIA.kt.lt
  have hWl : L.M < W.heap.size := hIA.kM.lt
  have hWo : ∀ {o : Obj} {m : Nat}, w.heap.size < ((W.alloc o).drewN m).heap.size := by intro o m; simp; omega
  have c0W := hIA.c0
  rw [h]
  have hcW : w.alloc (.cells #[.int .i64 1, .int .i64 x.reg, .int .i64 x.cell, .int .i64 x.val] 57) = W := hW.symm
  have HBL : Hid _ := hbl
  clear hI hIA hbA hW
  go_enter Try.func42, Try.ntmps42
  go_wp2
  go_region_law ((refine step_append_held rfl (.tmp 26) (.tmp 32) 80 rfl 98 i0 _ Try.underlying80 hi hz0 hz1 hz2 rfl (HK2.out _ 1) hk HBL.out (by simp [Act.eval]) ⟨w.heap.size + 1, 0, none⟩ (by simp [Act.eval]) x (by exact HN2.out 1) ?_; intro v' w4 q1 q2 q3 q4 q5 q6; obtain ⟨va, vc, hv⟩ := q2.len; subst hv; have s2 := q1.t2 k hk; have s3 := q1.kt.free (k * 18 + 17); have Q1 : Hid _ := q1; have Q2 : Hid (Buf2 w4 (.slice va ((th k).buf ++ [x]).length vc) ((th k).buf ++ [x])) := q2; have Q3 : Hid _ := q3; have Q4 : Hid _ := q4; have Q6 : Hid _ := q6; have s6 := q5 ⟨w.heap.size, 2, none⟩ hWo HBO.out; have s7 := q5 ⟨w.heap.size, 3, none⟩ hWo HBO.out; clear q1 q2 q3 q4 q5 q6))
  all_goals go_wp2
  all_goals go_end0
  all_goals
    have hend := HEND.out _ _ Q1.out Q2.out Q3.out (HBW.out _ _ _ Q4.out) (HFW.out _ _ _ Q6.out)
    rw [List.length_append] at hend
    exact ⟨rfl, hend⟩

end Go.Proofs.Ytokfiflflcfidab
