import Derived.Test.YtokfiflflcfidaaRows
import Derived.Test.YtokfiflflcfidaaPlain
import Derived.Test.YtokfiflflcfidaaMem
import Derived.Test.YtokfiflflcfidaaMachM
import Derived.Test.YtokfiflflcfidaaMachW
import Derived.Test.YtokfiflflcfidaaMachB
import Derived.Test.YtokfiflflcfidaaMachX
import Derived.WalkKit
import Derived.WalkSpells
import Derived.WalkLawsBesides
import Derived.RegionTactic
import Derived.BigRegion
import Derived.Deep.RegionHeld3
import Derived.Deep.DrawnRows
import Derived.Deep.QuietTactic
import Derived.BigQuiet
namespace Go.Proofs.Ytokfiflflcfidaa
open Go.RowKit
attribute [local go_sem ↓] Go.wp_at_zero Go.wp_at_succ

theorem Try.infoIns : (Try.prog.info? 54).map (fun i => (i.zero, i.size, i.bytes)) = some (some (.agg #[.int .i64 0, .int .i64 0, .int .i64 0, .int .i64 0]), 4, 32) := by kernel_rfl
set_option maxRecDepth 100000 in
set_option maxHeartbeats 8000000 in
theorem step_store1 (code : List (List RIns)) (mem : Nat → Nat) (th : Nat → Th) (k base model : Nat) (L : MLoc) (cv : Value) (w : World) (hI : MInv 82 84 3 54 w base L cv model code.length mem th)
    (hC : CodesRd w cv code) (hS : SndC code) (hO : MOk code th) (hk : k < code.length) (hpc : (th k).pc < (code[k]?.getD []).length) (h1 : (insOf code k (th k).pc).op = 1) (hm1 : model = 1) :
    Calls Try.prog 62 #[.pointer (some ⟨L.M, 0, none⟩), .int .i64 k] w fun r w' => r = .returned (.tuple #[]) ∧
      Moved 82 84 3 54 w w' base L cv model code.length (stpM (insOf code k (th k).pc) model mem) (updN th k (stpT (insOf code k (th k).pc) model mem th k)) := by
  have t0 := hI.t0 k hk
  have c0 := hI.c0
  have c1 := hI.c1
  have c2 := hI.c2
  have c3 := hI.c3
  have HC : Hid _ := hC
  obtain ⟨_, cb, co, cc, rfl, hcbl, hcc⟩ := hC
  obtain ⟨vk, hvk, _, ib, io, ic, rfl, hibl, hins⟩ := hcc k hk
  have hX := hins (th k).pc hpc
  have hXe : ((code[k]?.getD [])[(th k).pc]?.getD rins0) = insOf code k (th k).pc := rfl
  rw [hXe] at hX
  have hrl : (th k).regs.length = 16 := (hO k hk).2.1
  have hxr := ((hS.2.2 k hk).2.2 (th k).pc hpc).1
  have hxc := ((hS.2.2 k hk).2.2 (th k).pc hpc).2.1
  have HX : Hid _ := hX
  have hpl : (th k).pc < 32 := by have := (hS.2.2 k hk).2.1; omega
  have HO : Hid (MOk code (updN th k { th k with pc := (th k).pc + 1 })) := by
    intro j hj
    by_cases hjk : j = k
    · subst hjk; rw [updN_same]; have h1 := hO j hj; exact ⟨hpc, h1.2.1, Nat.le_succ_of_le h1.2.2.1, h1.2.2.2⟩
    · rw [updN_other _ _ hjk]; exact hO j hj
  have hsz : base ≤ w.heap.size := Nat.le_of_lt (Nat.lt_of_le_of_lt hI.bM hI.kM.lt)
  have HP : Hid (MInv 82 84 3 54 (w.setCell ⟨L.gt, k * 3, none⟩ (.int .i64 (((th k).pc : Nat) + 1 : Int))) base L (.slice (some ⟨cb, co, none⟩) code.length cc) model code.length mem (updN th k { th k with pc := (th k).pc + 1 })) := hI.setPc hk ((th k).pc + 1)
  have HPB : Hid (Below base w (w.setCell ⟨L.gt, k * 3, none⟩ (.int .i64 (((th k).pc : Nat) + 1 : Int)))) := (Below.refl base w).setCell (p := ⟨L.gt, k * 3, none⟩) hI.bt _
  have HB32 : Hid ((updN th k { th k with pc := (th k).pc + 1 } k).buf.length ≤ 32) := by show _ ≤ _; rw [updN_same]; have := (hO k hk).2.2.1; simp only []; omega
  have HK : Hid (∀ (o : Obj) (m : Nat), MInv 82 84 3 54 (((w.setCell ⟨L.gt, k * 3, none⟩ (.int .i64 (((th k).pc : Nat) + 1 : Int))).alloc o).drewN m) base L (.slice (some ⟨cb, co, none⟩) code.length cc) model code.length mem (updN th k { th k with pc := (th k).pc + 1 }) ∧
      Below base w (((w.setCell ⟨L.gt, k * 3, none⟩ (.int .i64 (((th k).pc : Nat) + 1 : Int))).alloc o).drewN m)) := by
    intro o m
    exact ⟨(HP.out.kept ((Below.refl _ _).alloc (Nat.le_refl _) o)).drew m, below_drewN (HPB.out.alloc (by simp; exact hsz) o) m⟩
  have HEND : Hid (∀ (w2 : World) (v' : Value), MInv 82 84 3 54 w2 base L (.slice (some ⟨cb, co, none⟩) code.length cc) model code.length mem (updN th k { th k with pc := (th k).pc + 1 }) → BufAt w2 v' ((updN th k { th k with pc := (th k).pc + 1 } k).buf ++ [insOf code k (th k).pc]) → (∀ b, v'.ownBlock = some b → Blk w2 b 54 ∧ base ≤ b ∧ ∀ j, j < code.length → j ≠ k → (L.bv j).ownBlock ≠ some b) → Below base w w2 → ∀ (m : Nat),
      Moved 82 84 3 54 w ((w2.setCell ⟨L.gt, k * 3 + 2, none⟩ v').drewN m) base L (.slice (some ⟨cb, co, none⟩) code.length cc) model code.length (stpM (insOf code k (th k).pc) model mem) (updN th k (stpT (insOf code k (th k).pc) model mem th k))) := by
    intro w2 v' q1 q2 q3 q4 m
    rw [updN_same] at q2
    have e1 : stpM (insOf code k (th k).pc) model mem = mem := by unfold stpM; rw [h1]; simp [hm1]
    have e2 : stpT (insOf code k (th k).pc) model mem th k = { th k with pc := (th k).pc + 1, buf := (th k).buf ++ [insOf code k (th k).pc] } := by unfold stpT; rw [h1]; simp [hm1]
    rw [e1, e2]
    have hA := q1.setBuf hk v' _ q2 q3
    have e3 : updN (updN th k { th k with pc := (th k).pc + 1 }) k { updN th k { th k with pc := (th k).pc + 1 } k with buf := (th k).buf ++ [insOf code k (th k).pc] } = updN th k { th k with pc := (th k).pc + 1, buf := (th k).buf ++ [insOf code k (th k).pc] } := by
      rw [updN_same]; funext j; simp only [updN]; split <;> rfl
    rw [e3] at hA
    exact ⟨{ L with bv := updN L.bv k v' }, rfl, hA.drew m, below_drewN (q4.setCell (p := ⟨L.gt, _, none⟩) hI.bt _) m⟩
  generalize insOf code k (th k).pc = x at *
  have x0 := hX.op
  have x1 := hX.reg
  have x2 := hX.cell
  have x3 := hX.val
  rw [h1] at x0
  have hft := hI.kt.free (k * 3)
  have hMl := hI.kM.lt
  have htl := hI.kt.lt
  have hd1 : L.gt ≠ L.M := hI.kt.ne hI.kM (Ne.symm hI.types.1)
  have hn := hS.2.1
  have t2 := hI.t2 k hk
  have hft2 := hI.kt.free (k * 3 + 2)
  have HN : Hid (∀ (W0 : World) (n : Nat), W0.heap.size = n → ∀ (m : Nat) (j : Nat) (u : Value), (insCells x)[j]? = some u → ((W0.alloc (.cells #[.int .i64 1, .int .i64 (x.reg : Int), .int .i64 (x.cell : Int), .int .i64 (x.val : Int)] 54)).drewN m).cell? ((⟨n, 0, none⟩ : Addr).add j) = some u) := by
    intro W0 n hWn m j u hu
    subst hWn
    rw [addr_add]
    simp only [insCells, h1] at hu
    match j, hu with
    | 0, hu => simp at hu; subst hu; simp
    | 1, hu => simp at hu; subst hu; simp
    | 2, hu => simp at hu; subst hu; simp
    | 3, hu => simp at hu; subst hu; simp
  obtain ⟨i0, hi, hz0, hz1, hz2⟩ := info_parts Try.infoIns
  subst hm1
  have HI : Hid _ := hI
  have HPC : Hid _ := hpc
  clear hX hcc hins hXe hI hpc
  generalize hpe : (th k).pc = pc at *
  have hpc := HPC.out
  generalize (code[k]?.getD []).length = cl at *
  go_enter Try.func62, Try.ntmps62
  go_wp2
  go_region
  go_wp2
  have hu : (w.setCell ⟨L.gt, k * 3, none⟩ (.int .i64 ((pc : Nat) + 1 : Int))).heap.size = w.heap.size := by simp
  obtain ⟨W, hW⟩ : ∃ W, W = ((w.setCell ⟨L.gt, k * 3, none⟩ (.int .i64 ((pc : Nat) + 1 : Int))).alloc (.cells #[.int .i64 1, .int .i64 (x.reg : Int), .int .i64 (x.cell : Int), .int .i64 (x.val : Int)] 54)).drew := ⟨_, rfl⟩
  have hWI := (HK.out (.cells #[.int .i64 1, .int .i64 (x.reg : Int), .int .i64 (x.cell : Int), .int .i64 (x.val : Int)] 54) 1)
  have hWs : W.heap.size = w.heap.size + 1 := by rw [hW]; simp
  have z0 : W.cell? ⟨w.heap.size, 0, none⟩ = some (.int .i64 1) := by rw [hW]; have := HN.out _ _ hu 1 0 (.int .i64 1) (by simp [insCells, h1]); rw [addr_add, Nat.zero_add] at this; exact this
  have z1 : W.cell? ⟨w.heap.size, 1, none⟩ = some (.int .i64 (x.reg : Int)) := by rw [hW]; have := HN.out _ _ hu 1 1 _ rfl; rw [addr_add, Nat.zero_add] at this; exact this
  have z2 : W.cell? ⟨w.heap.size, 2, none⟩ = some (.int .i64 (x.cell : Int)) := by rw [hW]; have := HN.out _ _ hu 1 2 _ rfl; rw [addr_add, Nat.zero_add] at this; exact this
  have z3 : W.cell? ⟨w.heap.size, 3, none⟩ = some (.int .i64 (x.val : Int)) := by rw [hW]; have := HN.out _ _ hu 1 3 _ rfl; rw [addr_add, Nat.zero_add] at this; exact this
  rw [← hW]
  rw [show ((w.setCell ⟨L.gt, k * 3, none⟩ (.int .i64 ((pc : Nat) + 1 : Int))).alloc (.cells #[.int .i64 1, .int .i64 (x.reg : Int), .int .i64 (x.cell : Int), .int .i64 (x.val : Int)] 54)).drewN 1 = W from hW.symm] at hWI
  have HWI : Hid _ := hWI
  have y3 := hWI.1.c3
  have HBO : Hid ((L.bv k).ownBlock ≠ some w.heap.size) := fun e => Nat.lt_irrefl _ (HI.out.kb k _ hk e).lt
  have hWo : ∀ {o : Obj} {m : Nat}, w.heap.size < ((W.alloc o).drewN m).heap.size := by intro o m; simp; omega
  have hgs : L.gt ≠ w.heap.size := by omega
  have hMs : L.M ≠ w.heap.size := by omega
  have y2 := hWI.1.t2 k hk
  have hWl : L.M < W.heap.size := hWI.1.kM.lt
  have hWt : L.gt < W.heap.size := hWI.1.kt.lt
  have HN2 : Hid (∀ (m j : Nat) (u : Value), (insCells x)[j]? = some u → ((W.alloc (.cells #[.int .i64 1, .int .i64 (x.reg : Int), .int .i64 (x.cell : Int), .int .i64 (x.val : Int)] 54)).drewN m).cell? ((⟨w.heap.size + 1, 0, none⟩ : Addr).add j) = some u) := by
    intro m
    have := HN.out W _ hWs m
    exact this
  have HK2 : Hid (∀ (o : Obj) (m : Nat), MInv 82 84 3 54 ((W.alloc o).drewN m) base L (.slice (some ⟨cb, co, none⟩) code.length cc) 1 code.length mem (updN th k { th k with pc := pc + 1 })) := fun o m => (hWI.1.kept ((Below.refl _ _).alloc (Nat.le_refl _) o)).drew m
  have HBW : Hid (∀ (o : Obj) (w5 : World), Below base ((W.alloc o).drewN 1) w5 → Below base w w5) := fun o w5 h => (below_drewN (hWI.2.alloc (by omega) o) 1).trans h
  clear hWI hW x0 x1 x2 x3 t0 hft c0 c1 c2 c3 t2 hft2 hvk HX HC HP HPB HO HI HPC hpe
  go_region_law ((refine step_append_buf rfl (.tmp 95) (.tmp 97) 52 rfl 54 i0 _ Try.underlying52 hi hz0 hz1 hz2 rfl (HK2.out _ 1) hk HB32.out (by simp [Act.eval]) ⟨w.heap.size + 1, 0, none⟩ (by simp [Act.eval]) x (by exact HN2.out 1) ?_; intro v' w4 q1 q2 q3 q4 q5; obtain ⟨va, vc, hv⟩ := q2.len; subst hv; have s1 := q1.c3; have s2 := q1.t2 k hk; have s3 := q1.kt.free (k * 3 + 2); have Q1 : Hid _ := q1; have Q2 : Hid _ := q2; have Q3 : Hid _ := q3; have Q4 : Hid _ := q4; have s4 := q5 ⟨w.heap.size, 0, none⟩ hWo HBO.out; have s5 := q5 ⟨w.heap.size, 1, none⟩ hWo HBO.out; have s6 := q5 ⟨w.heap.size, 2, none⟩ hWo HBO.out; have s7 := q5 ⟨w.heap.size, 3, none⟩ hWo HBO.out; clear q1 q2 q3 q4 q5))
  all_goals go_wp2
  all_goals go_end0
  all_goals
    have hend := HEND.out _ _ Q1.out Q2.out Q3.out (HBW.out _ _ Q4.out) 0
    rw [List.length_append] at hend
    exact ⟨rfl, hend⟩

end Go.Proofs.Ytokfiflflcfidaa
