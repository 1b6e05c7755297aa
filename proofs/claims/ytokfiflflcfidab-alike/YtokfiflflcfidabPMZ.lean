import Derived.Test.YtokfiflflcfidabRows
import Derived.Test.YtokfiflflcfidabPMY
import Derived.Test.YtokfiflflcfidabStM
import Derived.WalkKit
import Derived.WalkSpells
import Derived.WalkLawsBesides
import Derived.RegionTactic
import Derived.BigRegion
import Derived.Deep.QuietTactic
import Derived.BigQuiet
namespace Go.Proofs.Ytokfiflflcfidab
open Go.RowKit

/-- the program's machine at M in state s; w0: the world that it was started in -/
def PAt (w0 w : World) (M : Nat) (model : Nat) (code : List (List RIns)) (s : St) : Prop :=
  ∃ L : PLoc, L.M = M ∧ PInv 79 82 98 w w0.heap.size L model code.length s.mem s.th ∧ Below w0.heap.size w0 w ∧ MOk code s.th
theorem PAt.kept {w0 w w' : World} {M : Nat} {model : Nat} {code : List (List RIns)} {s : St} (h : PAt w0 w M model code s) (hb : Below w.heap.size w w') : PAt w0 w' M model code s := by
  obtain ⟨L, h1, h2, h3, h4⟩ := h
  exact ⟨L, h1, h2.kept hb, h3.trans (hb.mono h3.size), h4⟩
theorem PAt.below {w0 w : World} {M : Nat} {model : Nat} {code : List (List RIns)} {s : St} (h : PAt w0 w M model code s) : Below w0.heap.size w0 w := by
  obtain ⟨L, h1, h2, h3, h4⟩ := h
  exact h3

theorem insT_stp (x : RIns) (model p : Nat) (mem : Nat → Nat) (th : Nat → Th) (k : Nat) (hp : p = (th k).pc + 1) : insT x model mem (updN th k { th k with pc := p }) k = stpT x model mem th k := by
  subst hp
  unfold insT stpT loadS
  rw [updN_same]
theorem insM_stp (x : RIns) (model : Nat) (mem : Nat → Nat) : insM x model mem = stpM x model mem := rfl
theorem updN_twice (th : Nat → Th) (k : Nat) (a b : Th) : updN (updN th k a) k b = updN th k b := by
  funext j; unfold updN; split <;> rfl

/-- an instruction of sound code -/
theorem pstep_any (n : Nat) (mem : Nat → Nat) (th : Nat → Th) (k base model : Nat) (hm : model = 0 ∨ model = 1) (L : PLoc) (w : World) (hI : PInv 79 82 98 w base L model n mem th)
    (hk : k < n) (x : RIns) (hc : x.cell < 16) (hr : x.reg < 16) (hrl : (th k).regs.length = 16) (hbl : (th k).buf.length ≤ 32) (hop : x.op = 1 ∨ x.op = 2 ∨ x.op = 3) :
    Calls Try.prog 42 #[.pointer (some ⟨L.M, 0, none⟩), .pointer (some ⟨L.gt, k * 18, none⟩), .agg #[.int .i64 x.op, .int .i64 x.reg, .int .i64 x.cell, .int .i64 x.val]] w fun r w' => r = .returned (.tuple #[]) ∧
      PMoved 79 82 98 w w' base L model n (insM x model mem) (updN th k (insT x model mem th k)) := by
  rcases hop with h | h | h
  · rcases hm with hm | hm
    · exact pstep_any0 n mem th k base model L w hI hk x hc hr hrl hbl (Or.inr (Or.inr ⟨h, hm⟩))
    · subst hm
      exact pstep_any1 n mem th k base L w hI hk x hbl h
  · exact pstep_any0 n mem th k base model L w hI hk x hc hr hrl hbl (Or.inr (Or.inl h))
  · exact pstep_any0 n mem th k base model L w hI hk x hc hr hrl hbl (Or.inl h)

set_option maxRecDepth 100000 in
set_option maxHeartbeats 1600000 in
theorem makeDrain_any (code : List (List RIns)) (s : St) (k model M : Nat) (cv : Value) (w0 w : World) (h : PAt w0 w M model code s) (hC : CodesRd w0 cv code) (hk : k < code.length) (hb : 0 < (s.th k).buf.length) :
    Calls Try.prog 32 #[.pointer (some ⟨M, 0, none⟩), cv, .agg #[.int .i64 k, .bool true]] w fun r w' => r = .returned (.tuple #[]) ∧ PAt w0 w' M model code (moveS code model s (k, true)) ∧ PFr 79 82 98 w w' := by
  have hb0 : Below w.heap.size w (w.alloc (.cells #[.int .i64 (k : Int), .bool true] 75)) := (Below.refl _ _).alloc (Nat.le_refl _) _
  have h1 := h.kept hb0
  obtain ⟨L, rfl, hI, hB, hO⟩ := h1
  have hex : ∃ x l, (s.th k).buf = x :: l := by
    cases he : (s.th k).buf with
    | nil => rw [he] at hb; simp at hb
    | cons x l => exact ⟨x, l, rfl⟩
  obtain ⟨x, l, hx⟩ := hex
  have hc : x.cell < 16 := by
    have := (hO k hk).2.2.2 0 hb
    rw [hx] at this
    simpa using this
  have HE : Hid (moveS code model s (k, true) = ⟨updN s.mem x.cell x.val, updN s.th k { s.th k with buf := l }⟩) := by show drainS k s = _; unfold drainS; rw [hx]
  have HOD : Hid _ := hO.drain hk hx
  have HDR : Hid _ := pdrain_any code.length s.mem s.th k w0.heap.size model L _ hI hk x l hx hc
  have HB : Hid _ := hB
  have c1 := hI.c1
  have hMl : L.M < w.heap.size := by
    obtain ⟨L2, e2, hI2, _⟩ := h
    rw [← e2]; exact hI2.kM.lt
  have hMn : ¬ (L.M = w.heap.size) := by omega
  obtain ⟨_, cb, co, cc, rfl, _, _⟩ := hC
  have hk0 : ¬ ((k : Int) < 0) := by omega
  have hk1 : ¬ ((code.length : Int) ≤ (k : Int)) := by omega
  have c1w : w.cell? ⟨L.M, 1, none⟩ = some (.slice (some ⟨L.gt, 0, none⟩) code.length L.tcap) := (hb0.cell (p := ⟨L.M, 1, none⟩) hMl).symm.trans c1
  clear hI hO hB hx h hb0 c1
  go_enter Try.func32, Try.ntmps32
  go_wp2_with fail
  refine Calls.mono HDR.out ?_
  rintro r w1 ⟨rfl, L', e1, hI', hB', hF'⟩
  have HF : Hid (PAt w0 w1 L.M model code (moveS code model s (k, true))) := ⟨L', e1, by rw [HE.out]; exact hI', HB.out.trans hB', by rw [HE.out]; exact HOD.out⟩
  have HFF : Hid (PFr 79 82 98 w w1) := (PFr.alloc w _).trans hF'
  clear hI' hB' e1 hF'
  go_wp2
  exact bodyPost_ret (results_none Try.results32 _ _ _) rfl ⟨rfl, HF.out, HFF.out⟩

set_option maxRecDepth 100000 in
set_option maxHeartbeats 1600000 in
theorem makeStep_any (code : List (List RIns)) (s : St) (k model M : Nat) (cv : Value) (w0 w : World) (h : PAt w0 w M model code s) (hC : CodesRd w0 cv code) (hS : SndC code) (hm : model = 0 ∨ model = 1) (hk : k < code.length) (hpc : (s.th k).pc < (code[k]?.getD []).length) :
    Calls Try.prog 32 #[.pointer (some ⟨M, 0, none⟩), cv, .agg #[.int .i64 k, .bool false]] w fun r w' => r = .returned (.tuple #[]) ∧ PAt w0 w' M model code (moveS code model s (k, false)) ∧ PFr 79 82 98 w w' := by
  have hCw := hC.kept h.below
  obtain ⟨L, rfl, hI, hB, hO⟩ := h
  obtain ⟨_, cb, co, cc, rfl, hcbl, hcc⟩ := hCw
  obtain ⟨vk, hvk, _, ib, io, ic, rfl, hibl, hins⟩ := hcc k hk
  have hX := hins (s.th k).pc hpc
  have hXe : ((code[k]?.getD [])[(s.th k).pc]?.getD rins0) = insOf code k (s.th k).pc := rfl
  rw [hXe] at hX
  have hsnd := (hS.2.2 k hk).2.2 (s.th k).pc hpc
  have hxr : (insOf code k (s.th k).pc).reg < 16 := hsnd.1
  have hxc : (insOf code k (s.th k).pc).cell < 16 := hsnd.2.1
  have hop := hsnd.2.2
  have hrl : (s.th k).regs.length = 16 := (hO k hk).2.1
  have hpl : (s.th k).pc < 32 := by have := (hS.2.2 k hk).2.1; omega
  have hbl : (s.th k).buf.length ≤ 32 := by have := (hO k hk).2.2.1; omega
  have HOS : Hid _ := hO.step hS hk hpc model s.mem
  have hsz := hI.size
  have HST : Hid (∀ (o1 o2 : Obj) (m : Nat) (w1 : World), w1 = ((((w.alloc o1).drewN m).setCell ⟨L.gt, k * 18, none⟩ (.int .i64 (((s.th k).pc : Nat) + 1 : Int))).alloc o2) → Calls Try.prog 42 #[.pointer (some ⟨L.M, 0, none⟩), .pointer (some ⟨L.gt, k * 18, none⟩), .agg #[.int .i64 (insOf code k (s.th k).pc).op, .int .i64 (insOf code k (s.th k).pc).reg, .int .i64 (insOf code k (s.th k).pc).cell, .int .i64 (insOf code k (s.th k).pc).val]] w1 fun r w' => r = .returned (.tuple #[]) ∧ PAt w0 w' L.M model code (moveS code model s (k, false)) ∧ PFr 79 82 98 w w') := by
    intro o1 o2 m w1 hw1
    have hP : PInv 79 82 98 w1 w0.heap.size L model code.length s.mem (updN s.th k { s.th k with pc := (s.th k).pc + 1 }) := by
      rw [hw1]
      exact (((hI.kept ((Below.refl _ _).alloc (Nat.le_refl _) o1)).drew m).setPc hk ((s.th k).pc + 1)).kept ((Below.refl _ _).alloc (Nat.le_refl _) o2)
    have hPB : Below w0.heap.size w w1 := by
      rw [hw1]
      exact ((below_drewN ((Below.refl _ w).alloc hsz o1) m).setCell (p := ⟨L.gt, k * 18, none⟩) hI.bt _).alloc (by simp; omega) o2
    have hPF : PFr 79 82 98 w w1 := by
      rw [hw1]
      exact (((PFr.alloc w o1).trans (PFr.drew _ m)).trans (PFr.set ((hI.kt.kept ((Below.refl _ _).alloc (Nat.le_refl _) o1))) (Or.inr (Or.inl rfl)) _ _)).trans (PFr.alloc _ o2)
    refine (pstep_any code.length s.mem _ k w0.heap.size model hm L w1 hP hk _ hxc hxr (by rw [updN_same]; exact hrl) (by rw [updN_same]; exact hbl) hop).mono ?_
    rintro r w' ⟨h1, L', h2, h3, h4, h5⟩
    refine ⟨h1, ⟨L', h2, ?_, hB.trans (hPB.trans h4), HOS.out⟩, hPF.trans h5⟩
    rw [insT_stp _ _ _ _ _ _ rfl, updN_twice] at h3
    exact h3
  have x0 := hX.op
  have x1 := hX.reg
  have x2 := hX.cell
  have x3 := hX.val
  have t0 := hI.t0 k hk
  have hft := hI.kt.free (k * 18)
  have c1 := hI.c1
  have hMl := hI.kM.lt
  have htl := hI.kt.lt
  have hMn : ¬ (L.M = w.heap.size) := by omega
  have htn : ¬ (L.gt = w.heap.size) := by omega
  have hcn : ¬ (cb = w.heap.size) := by omega
  have hin : ¬ (ib = w.heap.size) := by omega
  have hd1 : ¬ (L.gt = L.M) := hI.kt.ne hI.kM (Ne.symm hI.types.1)
  have hk0 : ¬ ((k : Int) < 0) := by omega
  have hk1 : ¬ ((code.length : Int) ≤ (k : Int)) := by omega
  have hl16 := hS.2.1
  clear hX hXe hcc hins hI hO hB hC hS
  generalize insOf code k (s.th k).pc = x at *
  generalize (s.th k).pc = pc at *
  generalize (code[k]?.getD []).length = cl at *
  have hp0 : ¬ ((pc : Int) < 0) := by omega
  have hp1 : ¬ ((cl : Int) ≤ (pc : Int)) := by omega
  have hp0d : decide ((pc : Int) < 0) = false := decide_eq_false hp0
  have hp1d : decide ((cl : Int) ≤ (pc : Int)) = false := decide_eq_false hp1
  go_enter Try.func32, Try.ntmps32
  go_wp2
  go_quiet (fail)
  go_wp2
  go_region
  go_wp2_with fail
  refine Calls.mono (HST.out _ _ _ _ rfl) ?_
  rintro r w1 ⟨rfl, hP⟩
  have HP : Hid _ := hP
  clear hP
  go_wp2
  go_end0
  exact ⟨rfl, HP.out⟩

end Go.Proofs.Ytokfiflflcfidab
