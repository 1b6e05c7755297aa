import Derived.Test.YtokfiflflcfidaaRows
import Derived.Test.YtokfiflflcfidaaPlain
import Derived.Test.YtokfiflflcfidaaMem
import Derived.Test.YtokfiflflcfidaaMachM
import Derived.Test.YtokfiflflcfidaaStM
import Derived.Test.YtokfiflflcfidaaMachW
import Derived.WalkKit
import Derived.WalkSpells
import Derived.WalkLawsBesides
import Derived.RegionTactic
import Derived.BigRegion
import Derived.Deep.QuietTactic
import Derived.BigQuiet
namespace Go.Proofs.Ytokfiflflcfidaa
open Go.RowKit

/-- what a move leaves: the machine in its new state, and nothing else touched that was there at base -/
def Moved (TM TT TI TX : Nat) (w w' : World) (base : Nat) (L : MLoc) (cv : Value) (model n : Nat) (mem : Nat → Nat) (th : Nat → Th) : Prop :=
  ∃ L' : MLoc, L'.M = L.M ∧ MInv TM TT TI TX w' base L' cv model n mem th ∧ Below base w w'

set_option maxRecDepth 100000 in
set_option maxHeartbeats 800000 in
theorem drain_any (code : List (List RIns)) (mem : Nat → Nat) (th : Nat → Th) (k base model : Nat) (L : MLoc) (cv : Value) (w : World) (hI : MInv 82 84 3 54 w base L cv model code.length mem th)
    (hS : SndC code) (hk : k < code.length) (x : RIns) (l : List RIns) (hx : (th k).buf = x :: l) (hc : x.cell < 16) :
    Calls Try.prog 63 #[.pointer (some ⟨L.M, 0, none⟩), .int .i64 k] w fun r w' => r = .returned (.tuple #[]) ∧
      Moved 82 84 3 54 w w' base L cv model code.length (updN mem x.cell x.val) (updN th k { th k with buf := l }) := by
  have hbuf := hI.cb k hk
  have t2 := hI.t2 k hk
  rw [hx] at hbuf
  rcases hbuf with ⟨_, h⟩ | ⟨b, off, cap, hbv, hcap, hins, hsp⟩
  · simp at h
  have hown : (L.bv k).ownBlock = some b := by rw [hbv]; rfl
  have HEND : Hid (∀ (v : Value), (v = .slice (some ⟨b, off + 4, none⟩) l.length (cap - 1) ∨ (l = [] ∧ v = .slice (some ⟨b, off, none⟩) 0 0)) → ∀ (o : Obj) (m : Nat),
      Moved 82 84 3 54 w ((((w.setCell ⟨L.gm, x.cell, none⟩ (.int .i64 x.val)).setCell ⟨L.gt, k * 3 + 2, none⟩ v).alloc o).drewN m) base L cv model code.length (updN mem x.cell x.val) (updN th k { th k with buf := l })) := by
    intro v hv o m
    have hA := hI.setMem hc x.val
    have hne : L.gm ≠ b := hI.km.ne (hI.kb k b hk hown) hI.types.2.2.2.2.2
    have hvown : v.ownBlock = some b := by rcases hv with rfl | ⟨_, rfl⟩ <;> rfl
    have hBv : BufAt (w.setCell ⟨L.gm, x.cell, none⟩ (.int .i64 x.val)) v l := by
      rcases hv with rfl | ⟨rfl, rfl⟩
      · refine Or.inr ⟨b, off + 4, cap - 1, rfl, by simp at hcap; omega, fun i hi => ?_, fun j hj => ?_⟩
        · have := (hins (i + 1) (by simp; omega)).set (g := L.gm) (o := x.cell) (.int .i64 x.val) hne
          have e : off + (i + 1) * 4 = off + 4 + i * 4 := by omega
          rw [e] at this
          simpa using this
        · rw [set_ne _ (Or.inl hne)]
          have := hsp (4 + j) (by omega)
          rw [show off + (4 + j) = off + 4 + j from by omega] at this
          exact this
      · exact Or.inr ⟨b, off, 0, rfl, by simp, fun i hi => by simp at hi, fun j hj => by omega⟩
    have hB := hA.setBuf hk v l hBv (fun b' e => by
      rw [hvown] at e
      simp at e
      subst e
      exact ⟨(hI.kb k b hk hown).set _ _ _, hI.bb k b hk hown, fun j hj hjk => hI.dbb k j b hk hj (Ne.symm hjk) hown⟩)
    have hsz : base ≤ w.heap.size := Nat.le_of_lt (Nat.lt_of_le_of_lt hI.bM hI.kM.lt)
    have hbl : Below base w ((((w.setCell ⟨L.gm, x.cell, none⟩ (.int .i64 x.val)).setCell ⟨L.gt, k * 3 + 2, none⟩ v).alloc o).drewN m) :=
      below_drewN ((((Below.refl base w).setCell (p := ⟨L.gm, x.cell, none⟩) hI.bm _).setCell (p := ⟨L.gt, k * 3 + 2, none⟩) hI.bt _).alloc (by simp; exact hsz) o) m
    exact ⟨{ L with bv := updN L.bv k v }, rfl, (hB.kept ((Below.refl _ _).alloc (Nat.le_refl _) o)).drew m, hbl⟩
  rw [hbv] at t2
  have hl1 : (x :: l).length = l.length + 1 := rfl
  rw [hl1] at t2 hcap
  have hX := hins 0 (by simp)
  have x0 := hX.op
  have x1 := hX.reg
  have x2 := hX.cell
  have x3 := hX.val
  simp only [Nat.zero_mul, Nat.add_zero, List.getElem?_cons_zero, Option.getD_some] at x0 x1 x2 x3
  have hm := hI.cm x.cell hc
  have hfm := hI.km.free x.cell
  have hft := hI.kt.free (k * 3 + 2)
  have c2 := hI.c2
  have c3 := hI.c3
  have hMl := hI.kM.lt
  have hgl := hI.km.lt
  have htl := hI.kt.lt
  have hd1 : L.gm ≠ L.M := hI.km.ne hI.kM (Ne.symm hI.types.2.1)
  have hd2 : L.gm ≠ L.gt := hI.km.ne hI.kt (Ne.symm hI.types.2.2.2.1)
  have hn := hS.2.1
  have hci : (x.cell : Int) < 16 := by omega
  clear hX hins hsp hown hl1 hx hI hbv
  go_enter Try.func63, Try.ntmps63
  go_wp2
  go_region
  go_wp2
  go_region
  go_wp2
  all_goals go_end0
  · refine ⟨rfl, ?_⟩
    have hl0 : l = [] := List.eq_nil_of_length_eq_zero (by omega)
    subst hl0
    exact HEND.out _ (Or.inr ⟨rfl, rfl⟩) _ 2
  · exact ⟨rfl, HEND.out _ (Or.inl rfl) _ 2⟩

set_option maxRecDepth 100000 in
set_option maxHeartbeats 800000 in
theorem step_fence (code : List (List RIns)) (mem : Nat → Nat) (th : Nat → Th) (k base model : Nat) (L : MLoc) (cv : Value) (w : World) (hI : MInv 82 84 3 54 w base L cv model code.length mem th)
    (hC : CodesRd w cv code) (hS : SndC code) (hO : MOk code th) (hk : k < code.length) (hpc : (th k).pc < (code[k]?.getD []).length) (h3 : (insOf code k (th k).pc).op = 3) :
    Calls Try.prog 62 #[.pointer (some ⟨L.M, 0, none⟩), .int .i64 k] w fun r w' => r = .returned (.tuple #[]) ∧
      Moved 82 84 3 54 w w' base L cv model code.length (stpM (insOf code k (th k).pc) model mem) (updN th k (stpT (insOf code k (th k).pc) model mem th k)) := by
  have t0 := hI.t0 k hk
  have c0 := hI.c0
  have c1 := hI.c1
  have c2 := hI.c2
  have c3 := hI.c3
  have HC : Hid _ := hC
  obtain ⟨_, cb, co, cc, rfl, hcbl, hcc⟩ := hC
  obtain ⟨vk, hvk, _, ib, io, ic, rfl, hibl, hins⟩ := hcc k hk
  have hX := hins (th k).pc hpc
  have hXe : ((code[k]?.getD [])[(th k).pc]?.getD rins0) = insOf code k (th k).pc := rfl
  rw [hXe] at hX
  have hrl : (th k).regs.length = 16 := (hO k hk).2.1
  have hxr := ((hS.2.2 k hk).2.2 (th k).pc hpc).1
  have hxc := ((hS.2.2 k hk).2.2 (th k).pc hpc).2.1
  have HX : Hid _ := hX
  have hpl : (th k).pc < 32 := by have := (hS.2.2 k hk).2.1; omega
  have HO : Hid (MOk code (updN th k { th k with pc := (th k).pc + 1 })) := by
    intro j hj
    by_cases hjk : j = k
    · subst hjk; rw [updN_same]; have h1 := hO j hj; exact ⟨hpc, h1.2.1, Nat.le_succ_of_le h1.2.2.1, h1.2.2.2⟩
    · rw [updN_other _ _ hjk]; exact hO j hj
  have hsz : base ≤ w.heap.size := Nat.le_of_lt (Nat.lt_of_le_of_lt hI.bM hI.kM.lt)
  have HP : Hid (MInv 82 84 3 54 (w.setCell ⟨L.gt, k * 3, none⟩ (.int .i64 (((th k).pc : Nat) + 1 : Int))) base L (.slice (some ⟨cb, co, none⟩) code.length cc) model code.length mem (updN th k { th k with pc := (th k).pc + 1 })) := hI.setPc hk ((th k).pc + 1)
  have HPB : Hid (Below base w (w.setCell ⟨L.gt, k * 3, none⟩ (.int .i64 (((th k).pc : Nat) + 1 : Int)))) := (Below.refl base w).setCell (p := ⟨L.gt, k * 3, none⟩) hI.bt _
  have HEND : Hid (∀ (o : Obj) (m : Nat), Moved 82 84 3 54 w (((w.setCell ⟨L.gt, k * 3, none⟩ (.int .i64 (((th k).pc : Nat) + 1 : Int))).alloc o).drewN m) base L (.slice (some ⟨cb, co, none⟩) code.length cc) model code.length (stpM (insOf code k (th k).pc) model mem) (updN th k (stpT (insOf code k (th k).pc) model mem th k))) := by
    intro o m
    have e1 : stpM (insOf code k (th k).pc) model mem = mem := by unfold stpM; rw [h3]; simp
    have e2 : stpT (insOf code k (th k).pc) model mem th k = { th k with pc := (th k).pc + 1 } := by unfold stpT; rw [h3]; simp
    rw [e1, e2]
    exact ⟨L, rfl, (HP.out.kept ((Below.refl _ _).alloc (Nat.le_refl _) o)).drew m, below_drewN (HPB.out.alloc (by simp; exact hsz) o) m⟩
  generalize insOf code k (th k).pc = x at *
  have x0 := hX.op
  have x1 := hX.reg
  have x2 := hX.cell
  have x3 := hX.val
  rw [h3] at x0
  have hft := hI.kt.free (k * 3)
  have hMl := hI.kM.lt
  have htl := hI.kt.lt
  have hd1 : L.gt ≠ L.M := hI.kt.ne hI.kM (Ne.symm hI.types.1)
  have hn := hS.2.1

  have HI : Hid _ := hI
  have HPC : Hid _ := hpc
  clear hX hcc hins hXe hI hpc
  generalize hpe : (th k).pc = pc at *
  have hpc := HPC.out
  generalize (code[k]?.getD []).length = cl at *
  go_enter Try.func62, Try.ntmps62
  go_wp2
  go_region
  go_wp2
  go_end0
  exact ⟨rfl, HEND.out _ 1⟩

set_option maxRecDepth 100000 in
set_option maxHeartbeats 800000 in
theorem step_store0 (code : List (List RIns)) (mem : Nat → Nat) (th : Nat → Th) (k base model : Nat) (L : MLoc) (cv : Value) (w : World) (hI : MInv 82 84 3 54 w base L cv model code.length mem th)
    (hC : CodesRd w cv code) (hS : SndC code) (hO : MOk code th) (hk : k < code.length) (hpc : (th k).pc < (code[k]?.getD []).length) (h1 : (insOf code k (th k).pc).op = 1) (hm0 : model = 0) :
    Calls Try.prog 62 #[.pointer (some ⟨L.M, 0, none⟩), .int .i64 k] w fun r w' => r = .returned (.tuple #[]) ∧
      Moved 82 84 3 54 w w' base L cv model code.length (stpM (insOf code k (th k).pc) model mem) (updN th k (stpT (insOf code k (th k).pc) model mem th k)) := by
  have t0 := hI.t0 k hk
  have c0 := hI.c0
  have c1 := hI.c1
  have c2 := hI.c2
  have c3 := hI.c3
  have HC : Hid _ := hC
  obtain ⟨_, cb, co, cc, rfl, hcbl, hcc⟩ := hC
  obtain ⟨vk, hvk, _, ib, io, ic, rfl, hibl, hins⟩ := hcc k hk
  have hX := hins (th k).pc hpc
  have hXe : ((code[k]?.getD [])[(th k).pc]?.getD rins0) = insOf code k (th k).pc := rfl
  rw [hXe] at hX
  have hrl : (th k).regs.length = 16 := (hO k hk).2.1
  have hxr := ((hS.2.2 k hk).2.2 (th k).pc hpc).1
  have hxc := ((hS.2.2 k hk).2.2 (th k).pc hpc).2.1
  have HX : Hid _ := hX
  have hpl : (th k).pc < 32 := by have := (hS.2.2 k hk).2.1; omega
  have HO : Hid (MOk code (updN th k { th k with pc := (th k).pc + 1 })) := by
    intro j hj
    by_cases hjk : j = k
    · subst hjk; rw [updN_same]; have h1 := hO j hj; exact ⟨hpc, h1.2.1, Nat.le_succ_of_le h1.2.2.1, h1.2.2.2⟩
    · rw [updN_other _ _ hjk]; exact hO j hj
  have hsz : base ≤ w.heap.size := Nat.le_of_lt (Nat.lt_of_le_of_lt hI.bM hI.kM.lt)
  have HP : Hid (MInv 82 84 3 54 (w.setCell ⟨L.gt, k * 3, none⟩ (.int .i64 (((th k).pc : Nat) + 1 : Int))) base L (.slice (some ⟨cb, co, none⟩) code.length cc) model code.length mem (updN th k { th k with pc := (th k).pc + 1 })) := hI.setPc hk ((th k).pc + 1)
  have HPB : Hid (Below base w (w.setCell ⟨L.gt, k * 3, none⟩ (.int .i64 (((th k).pc : Nat) + 1 : Int)))) := (Below.refl base w).setCell (p := ⟨L.gt, k * 3, none⟩) hI.bt _
  have HEND : Hid (∀ (o : Obj) (m : Nat), Moved 82 84 3 54 w ((((w.setCell ⟨L.gt, k * 3, none⟩ (.int .i64 (((th k).pc : Nat) + 1 : Int))).setCell ⟨L.gm, (insOf code k (th k).pc).cell, none⟩ (.int .i64 (insOf code k (th k).pc).val)).alloc o).drewN m) base L (.slice (some ⟨cb, co, none⟩) code.length cc) model code.length (stpM (insOf code k (th k).pc) model mem) (updN th k (stpT (insOf code k (th k).pc) model mem th k))) := by
    intro o m
    have e1 : stpM (insOf code k (th k).pc) model mem = updN mem (insOf code k (th k).pc).cell (insOf code k (th k).pc).val := by unfold stpM; rw [h1]; simp [hm0]
    have e2 : stpT (insOf code k (th k).pc) model mem th k = { th k with pc := (th k).pc + 1 } := by unfold stpT; rw [h1]; simp [hm0]
    rw [e1, e2]
    exact ⟨L, rfl, ((HP.out.setMem hxc _).kept ((Below.refl _ _).alloc (Nat.le_refl _) o)).drew m, below_drewN ((HPB.out.setCell (p := ⟨L.gm, _, none⟩) hI.bm _).alloc (by simp; exact hsz) o) m⟩
  generalize insOf code k (th k).pc = x at *
  have x0 := hX.op
  have x1 := hX.reg
  have x2 := hX.cell
  have x3 := hX.val
  rw [h1] at x0
  have hft := hI.kt.free (k * 3)
  have hMl := hI.kM.lt
  have htl := hI.kt.lt
  have hd1 : L.gt ≠ L.M := hI.kt.ne hI.kM (Ne.symm hI.types.1)
  have hn := hS.2.1
  have hm := hI.cm x.cell hxc
  have hfm := hI.km.free x.cell
  have hgl := hI.km.lt
  have hd2 : L.gt ≠ L.gm := hI.kt.ne hI.km hI.types.2.2.2.1
  have hd3 : L.gm ≠ L.M := hI.km.ne hI.kM (Ne.symm hI.types.2.1)
  have hci : (x.cell : Int) < 16 := by omega
  subst hm0
  have HI : Hid _ := hI
  have HPC : Hid _ := hpc
  clear hX hcc hins hXe hI hpc
  generalize hpe : (th k).pc = pc at *
  have hpc := HPC.out
  generalize (code[k]?.getD []).length = cl at *
  go_enter Try.func62, Try.ntmps62
  go_wp2
  go_region
  go_wp2
  go_region
  go_wp2
  go_end0
  exact ⟨rfl, HEND.out _ 2⟩

set_option maxRecDepth 100000 in
set_option maxHeartbeats 800000 in
theorem step_load (code : List (List RIns)) (mem : Nat → Nat) (th : Nat → Th) (k base model : Nat) (L : MLoc) (cv : Value) (w : World) (hI : MInv 82 84 3 54 w base L cv model code.length mem th)
    (hC : CodesRd w cv code) (hS : SndC code) (hO : MOk code th) (hk : k < code.length) (hpc : (th k).pc < (code[k]?.getD []).length) (h2 : (insOf code k (th k).pc).op = 2) :
    Calls Try.prog 62 #[.pointer (some ⟨L.M, 0, none⟩), .int .i64 k] w fun r w' => r = .returned (.tuple #[]) ∧
      Moved 82 84 3 54 w w' base L cv model code.length (stpM (insOf code k (th k).pc) model mem) (updN th k (stpT (insOf code k (th k).pc) model mem th k)) := by
  have t0 := hI.t0 k hk
  have c0 := hI.c0
  have c1 := hI.c1
  have c2 := hI.c2
  have c3 := hI.c3
  have HC : Hid _ := hC
  obtain ⟨_, cb, co, cc, rfl, hcbl, hcc⟩ := hC
  obtain ⟨vk, hvk, _, ib, io, ic, rfl, hibl, hins⟩ := hcc k hk
  have hX := hins (th k).pc hpc
  have hXe : ((code[k]?.getD [])[(th k).pc]?.getD rins0) = insOf code k (th k).pc := rfl
  rw [hXe] at hX
  have hrl : (th k).regs.length = 16 := (hO k hk).2.1
  have hxr := ((hS.2.2 k hk).2.2 (th k).pc hpc).1
  have hxc := ((hS.2.2 k hk).2.2 (th k).pc hpc).2.1
  have HX : Hid _ := hX
  have hpl : (th k).pc < 32 := by have := (hS.2.2 k hk).2.1; omega
  have HO : Hid (MOk code (updN th k { th k with pc := (th k).pc + 1 })) := by
    intro j hj
    by_cases hjk : j = k
    · subst hjk; rw [updN_same]; have h1 := hO j hj; exact ⟨hpc, h1.2.1, Nat.le_succ_of_le h1.2.2.1, h1.2.2.2⟩
    · rw [updN_other _ _ hjk]; exact hO j hj
  have hsz : base ≤ w.heap.size := Nat.le_of_lt (Nat.lt_of_le_of_lt hI.bM hI.kM.lt)
  have HP : Hid (MInv 82 84 3 54 (w.setCell ⟨L.gt, k * 3, none⟩ (.int .i64 (((th k).pc : Nat) + 1 : Int))) base L (.slice (some ⟨cb, co, none⟩) code.length cc) model code.length mem (updN th k { th k with pc := (th k).pc + 1 })) := hI.setPc hk ((th k).pc + 1)
  have HPB : Hid (Below base w (w.setCell ⟨L.gt, k * 3, none⟩ (.int .i64 (((th k).pc : Nat) + 1 : Int)))) := (Below.refl base w).setCell (p := ⟨L.gt, k * 3, none⟩) hI.bt _
  have HEND : Hid (∀ (o : Obj) (m : Nat), Moved 82 84 3 54 w ((((w.setCell ⟨L.gt, k * 3, none⟩ (.int .i64 (((th k).pc : Nat) + 1 : Int))).alloc o).drewN m).setCell ⟨L.gr k, (insOf code k (th k).pc).reg, none⟩ (.int .i64 (loadS mem th k (insOf code k (th k).pc).cell : Nat))) base L (.slice (some ⟨cb, co, none⟩) code.length cc) model code.length (stpM (insOf code k (th k).pc) model mem) (updN th k (stpT (insOf code k (th k).pc) model mem th k))) := by
    intro o m
    have e1 : stpM (insOf code k (th k).pc) model mem = mem := by unfold stpM; rw [h2]; simp
    have e2 : stpT (insOf code k (th k).pc) model mem th k = { th k with pc := (th k).pc + 1, regs := (th k).regs.set (insOf code k (th k).pc).reg (loadS mem th k (insOf code k (th k).pc).cell) } := by unfold stpT; rw [h2]; simp
    rw [e1, e2]
    have hA := ((HP.out.kept ((Below.refl _ _).alloc (Nat.le_refl _) o)).drew m).setReg hk hxr (by rw [updN_same]; exact hrl) (loadS mem th k (insOf code k (th k).pc).cell)
    have e3 : updN (updN th k { th k with pc := (th k).pc + 1 }) k { updN th k { th k with pc := (th k).pc + 1 } k with regs := (updN th k { th k with pc := (th k).pc + 1 } k).regs.set (insOf code k (th k).pc).reg (loadS mem th k (insOf code k (th k).pc).cell) } = updN th k { th k with pc := (th k).pc + 1, regs := (th k).regs.set (insOf code k (th k).pc).reg (loadS mem th k (insOf code k (th k).pc).cell) } := by
      rw [updN_same]; funext j; simp only [updN]; split <;> rfl
    rw [e3] at hA
    exact ⟨L, rfl, hA, (below_drewN (HPB.out.alloc (by simp; exact hsz) o) m).setCell (p := ⟨L.gr k, _, none⟩) (hI.br k hk) _⟩
  have HLD : Hid (∀ (o : Obj) (m : Nat), Calls Try.prog 80 #[.pointer (some ⟨L.M, 0, none⟩), .int .i64 k, .int .i64 (insOf code k (th k).pc).cell] (((w.setCell ⟨L.gt, k * 3, none⟩ (.int .i64 (((th k).pc : Nat) + 1 : Int))).alloc o).drewN m) fun r w' => r = .returned (.int .i64 (loadS mem th k (insOf code k (th k).pc).cell : Nat)) ∧ w' = (((w.setCell ⟨L.gt, k * 3, none⟩ (.int .i64 (((th k).pc : Nat) + 1 : Int))).alloc o).drewN m)) := by
    intro o m
    have := load_any code mem (updN th k { th k with pc := (th k).pc + 1 }) k (insOf code k (th k).pc).cell base model L _ _ ((HP.out.kept ((Below.refl _ _).alloc (Nat.le_refl _) o)).drew m) hS HO.out hk hxc
    have e : loadS mem (updN th k { th k with pc := (th k).pc + 1 }) k (insOf code k (th k).pc).cell = loadS mem th k (insOf code k (th k).pc).cell := by unfold loadS; rw [updN_same]
    rw [e] at this
    exact this
  generalize insOf code k (th k).pc = x at *
  have x0 := hX.op
  have x1 := hX.reg
  have x2 := hX.cell
  have x3 := hX.val
  rw [h2] at x0
  have hft := hI.kt.free (k * 3)
  have hMl := hI.kM.lt
  have htl := hI.kt.lt
  have hd1 : L.gt ≠ L.M := hI.kt.ne hI.kM (Ne.symm hI.types.1)
  have hn := hS.2.1
  have hr1 := hI.t1 k hk
  have hrc := hI.cr k x.reg hk hxr
  have hfr := (hI.kr k hk).free x.reg
  have hrll := (hI.kr k hk).lt
  have hd2 : L.gt ≠ L.gr k := hI.kt.ne (hI.kr k hk) hI.types.2.2.2.1
  have hri : (x.reg : Int) < 16 := by omega
  generalize L.gr k = g at *
  generalize loadS mem th k x.cell = lv at *
  have HI : Hid _ := hI
  have HPC : Hid _ := hpc
  clear hX hcc hins hXe hI hpc
  generalize hpe : (th k).pc = pc at *
  have hpc := HPC.out
  generalize (code[k]?.getD []).length = cl at *
  go_enter Try.func62, Try.ntmps62
  go_wp2
  go_region
  go_wp2_with fail
  refine Calls.mono (HLD.out _ 1) ?_
  rintro r w2 ⟨rfl, rfl⟩
  go_wp2
  go_region
  go_wp2
  go_end0
  exact ⟨rfl, HEND.out _ 2⟩


end Go.Proofs.Ytokfiflflcfidaa
