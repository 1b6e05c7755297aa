import Derived.Test.YtokfiflflcfidabPlain
import Derived.Test.YtokfiflflcfidabMachM
import Derived.Test.YtokfiflflcfidabScr
namespace Go.Proofs.Ytokfiflflcfidab
open Go.RowKit

/-- a claim -/
structure RCl where
  thr : Int
  reg : Nat
  cell : Nat
  val : Nat
def rcl0 : RCl := ⟨0, 0, 0, 0⟩
structure ClAt (w : World) (b p : Nat) (c : RCl) : Prop where
  thr : w.cell? ⟨b, p, none⟩ = some (.int .i64 c.thr)
  reg : w.cell? ⟨b, p + 1, none⟩ = some (.int .i64 (c.reg : Int))
  cell : w.cell? ⟨b, p + 2, none⟩ = some (.int .i64 (c.cell : Int))
  val : w.cell? ⟨b, p + 3, none⟩ = some (.int .i64 (c.val : Int))
theorem ClAt.kept {w w' : World} {b p : Nat} {x : RCl} (h : ClAt w b p x) (hb : Below w.heap.size w w') (hlt : b < w.heap.size) : ClAt w' b p x :=
  ⟨(hb.cell (p := ⟨b, _, none⟩) hlt).trans h.thr, (hb.cell (p := ⟨b, _, none⟩) hlt).trans h.reg, (hb.cell (p := ⟨b, _, none⟩) hlt).trans h.cell, (hb.cell (p := ⟨b, _, none⟩) hlt).trans h.val⟩
/-- a slice of claims -/
def WantRd (w : World) (v : Value) (l : List RCl) : Prop :=
  ∃ a cap, v = .slice a l.length cap ∧ ∀ i, i < l.length → ∃ b off, a = some ⟨b, off, none⟩ ∧ b < w.heap.size ∧ ClAt w b (off + i * 4) (l[i]?.getD rcl0)
theorem WantRd.kept {w w' : World} {v : Value} {l : List RCl} (h : WantRd w v l) (hb : Below w.heap.size w w') : WantRd w' v l := by
  obtain ⟨a, cap, rfl, h1⟩ := h
  refine ⟨a, cap, rfl, fun i hi => ?_⟩
  obtain ⟨b, off, e, h2, h3⟩ := h1 i hi
  exact ⟨b, off, e, Nat.lt_of_lt_of_le h2 hb.size, h3.kept hb h2⟩
/-- sound claims over n threads -/
def SndW (n : Nat) (l : List RCl) : Prop := l.length ≤ 64 ∧ ∀ i, i < l.length → (-1 ≤ (l[i]?.getD rcl0).thr ∧ (l[i]?.getD rcl0).thr < n) ∧ (l[i]?.getD rcl0).reg < 16 ∧ (l[i]?.getD rcl0).cell < 16
/-- the place of a claim's number -/
def clAt (n : Nat) (c : RCl) : Nat := if c.thr < 0 then n * 16 + c.cell else c.thr.toNat * 16 + c.reg
def metTo (n : Nat) (want : List RCl) (e : List Nat) (i : Nat) : Bool := (want.take i).all fun c => e[clAt n c]?.getD 0 == c.val
def metS (n : Nat) (want : List RCl) (e : List Nat) : Bool := want.all fun c => e[clAt n c]?.getD 0 == c.val

/-- the memory behind a step -/
def stpM (x : RIns) (model : Nat) (mem : Nat → Nat) : Nat → Nat := if x.op = 1 ∧ model = 0 then updN mem x.cell x.val else mem
/-- thread k behind a step -/
def stpT (x : RIns) (model : Nat) (mem : Nat → Nat) (th : Nat → Th) (k : Nat) : Th :=
  ⟨(th k).pc + 1, if x.op = 2 then (th k).regs.set x.reg (loadS mem th k x.cell) else (th k).regs, if x.op = 1 ∧ model = 1 then (th k).buf ++ [x] else (th k).buf⟩

/-- the machine's state -/
structure St where
  mem : Nat → Nat
  th : Nat → Th
def stepS (code : List (List RIns)) (model k : Nat) (s : St) : St := ⟨stpM (insOf code k (s.th k).pc) model s.mem, updN s.th k (stpT (insOf code k (s.th k).pc) model s.mem s.th k)⟩
def drainS (k : Nat) (s : St) : St :=
  match (s.th k).buf with
  | [] => s
  | x :: l => ⟨updN s.mem x.cell x.val, updN s.th k { s.th k with buf := l }⟩
def moveS (code : List (List RIns)) (model : Nat) (s : St) (mv : Nat × Bool) : St := if mv.2 then drainS mv.1 s else stepS code model mv.1 s
/-- the n-th move, if there is one -/
def moveN (code : List (List RIns)) (model : Nat) (s : St) (n : Nat) : St :=
  match (mvs code s.th)[n]? with
  | none => s
  | some mv => moveS code model s mv

theorem mvTo_prefix (code : List (List RIns)) (th : Nat → Th) {k m : Nat} (h : k ≤ m) : mvTo code th k <+: mvTo code th m := by
  induction m with
  | zero => have : k = 0 := by omega
            subst this; exact List.prefix_refl _
  | succ m ih =>
    by_cases hk : k = m + 1
    · subst hk; exact List.prefix_refl _
    · refine (ih (by omega)).trans ?_
      simp only [mvTo, List.append_assoc]
      exact List.prefix_append _ _
theorem mvs_at (code : List (List RIns)) (th : Nat → Th) {k n : Nat} (hk : k ≤ code.length) {mv : Nat × Bool} (h : (mvTo code th k)[n]? = some mv) : (mvs code th)[n]? = some mv := by
  obtain ⟨t, ht⟩ := mvTo_prefix code th hk
  unfold mvs
  rw [← ht, List.getElem?_append_left (List.getElem?_eq_some_iff.1 h).1]
  exact h

theorem MOk.step {code : List (List RIns)} {th : Nat → Th} (hO : MOk code th) (hS : SndC code) {k : Nat} (hk : k < code.length) (hpc : (th k).pc < (code[k]?.getD []).length) (model : Nat) (mem : Nat → Nat) :
    MOk code (updN th k (stpT (insOf code k (th k).pc) model mem th k)) := by
  intro j hj
  by_cases hjk : j = k
  · subst hjk
    rw [updN_same]
    obtain ⟨h1, h2, h3, h4⟩ := hO j hj
    have hc := ((hS.2.2 j hj).2.2 _ hpc).2.1
    unfold stpT
    refine ⟨hpc, ?_, ?_, ?_⟩
    · dsimp only; split
      · simp [h2]
      · exact h2
    · dsimp only; split
      · simp; exact h3
      · omega
    · dsimp only; split
      · intro i hi
        by_cases hil : i < (th j).buf.length
        · rw [List.getElem?_append_left hil]; exact h4 i hil
        · have : i = (th j).buf.length := by simp at hi; omega
          subst this
          rw [List.getElem?_append_right (Nat.le_refl _), Nat.sub_self]
          exact hc
      · exact h4
  · rw [updN_other _ _ hjk]; exact hO j hj
theorem MOk.drain {code : List (List RIns)} {th : Nat → Th} (hO : MOk code th) {k : Nat} (hk : k < code.length) {x : RIns} {l : List RIns} (hb : (th k).buf = x :: l) :
    MOk code (updN th k { th k with buf := l }) := by
  intro j hj
  by_cases hjk : j = k
  · subst hjk
    rw [updN_same]
    obtain ⟨h1, h2, h3, h4⟩ := hO j hj
    rw [hb] at h3 h4
    refine ⟨h1, h2, by simp at h3; dsimp only; omega, fun i hi => ?_⟩
    have := h4 (i + 1) (by simp; omega)
    simpa using this
  · rw [updN_other _ _ hjk]; exact hO j hj

theorem canS_pc {code : List (List RIns)} {th : Nat → Th} {k : Nat} (h : canS code th k = true) : (th k).pc < (code[k]?.getD []).length := by
  unfold canS at h
  simp at h
  exact h.1



/-- the machine at its beginning -/
def st0 : St := ⟨fun _ => 0, fun _ => ⟨0, List.replicate 16 0, []⟩⟩
def runS (code : List (List RIns)) (model : Nat) : List Int → St → St
  | [], s => s
  | c :: cs, s => if (mvs code s.th).length = 0 then s else runS code model cs (moveN code model s (pickN c (mvs code s.th).length))
def settle (code : List (List RIns)) (model : Nat) : Nat → St → St
  | 0, s => s
  | n + 1, s => if 0 < (mvs code (settle code model n s).th).length then moveN code model (settle code model n s) 0 else settle code model n s
def regsTo (s : St) (k : Nat) : List Nat := (List.range k).flatMap fun j => (List.range 16).map fun r => (s.th j).regs[r]?.getD 0
def endS (n : Nat) (s : St) : List Nat := regsTo s n ++ (List.range 16).map s.mem
/-- how a play of the code ends -/
def playS (code : List (List RIns)) (model : Nat) (script : List Int) : St := settle code model 1024 (runS code model script st0)
theorem regsTo_succ (s : St) (k : Nat) : regsTo s (k + 1) = regsTo s k ++ (List.range 16).map fun r => (s.th k).regs[r]?.getD 0 := by simp [regsTo, List.range_succ]
theorem regsTo_length (s : St) (k : Nat) : (regsTo s k).length = k * 16 := by
  induction k with
  | zero => rfl
  | succ k ih => rw [regsTo_succ, List.length_append, ih]; simp; omega
theorem endS_length (n : Nat) (s : St) : (endS n s).length = n * 16 + 16 := by simp [endS, regsTo_length]

theorem range16_at (f : Nat → Nat) {j : Nat} (hj : j < 16) : ((List.range 16).map f)[j]?.getD 0 = f j := by simp [List.getElem?_map, List.getElem?_range hj]

end Go.Proofs.Ytokfiflflcfidab
