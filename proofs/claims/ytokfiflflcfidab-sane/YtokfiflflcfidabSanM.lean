import Derived.Test.YtokfiflflcfidabStM
import Derived.Test.YtokfiflflcfidabPlM
namespace Go.Proofs.Ytokfiflflcfidab
open Go.RowKit

/-- v is 0, or some thread stores it into the cell -/
def Strd (code : List (List RIns)) (c v : Nat) : Prop := v = 0 ∨ ∃ k i, k < code.length ∧ i < (code[k]?.getD []).length ∧ (insOf code k i).op = 1 ∧ (insOf code k i).cell = c ∧ (insOf code k i).val = v
/-- v is 0, or the thread loads, into the register, a cell into which some thread stores v -/
def Rddn (code : List (List RIns)) (k r v : Nat) : Prop := v = 0 ∨ ∃ i, i < (code[k]?.getD []).length ∧ (insOf code k i).op = 2 ∧ (insOf code k i).reg = r ∧ Strd code (insOf code k i).cell v
structure SI (code : List (List RIns)) (s : St) : Prop where
  mem : ∀ c, Strd code c (s.mem c)
  reg : ∀ k, k < code.length → ∀ r, Rddn code k r ((s.th k).regs[r]?.getD 0)
  buf : ∀ k, k < code.length → ∀ x ∈ (s.th k).buf, Strd code x.cell x.val

theorem ldTo_mem (buf : List RIns) (c n : Nat) (hn : n ≤ buf.length) {v : Nat} (h : ldTo buf c n = some v) : ∃ x ∈ buf, x.cell = c ∧ x.val = v := by
  induction n with
  | zero => cases h
  | succ n ih =>
    unfold ldTo at h
    split at h
    · rename_i hc
      refine ⟨buf[n]?.getD rins0, ?_, hc, by simpa using h⟩
      rw [List.getElem?_eq_getElem (by omega)]
      exact List.getElem_mem _
    · exact ih (by omega) h
theorem loadS_str {code : List (List RIns)} {s : St} (h : SI code s) {k : Nat} (hk : k < code.length) (c : Nat) : Strd code c (loadS s.mem s.th k c) := by
  unfold loadS
  cases hl : ldTo (s.th k).buf c (s.th k).buf.length with
  | none => exact h.mem c
  | some v =>
    obtain ⟨x, hx, rfl, rfl⟩ := ldTo_mem _ _ _ (Nat.le_refl _) hl
    exact h.buf k hk x hx

theorem SI.init (code : List (List RIns)) : SI code st0 := by
  refine ⟨fun c => Or.inl rfl, fun k _ r => Or.inl ?_, fun k _ x hx => by cases hx⟩
  show (List.replicate 16 0)[r]?.getD 0 = 0
  rw [List.getElem?_replicate]
  split <;> rfl

theorem SI.move {code : List (List RIns)} {model : Nat} {s : St} (h : SI code s) {mv : Nat × Bool} (hm : mv ∈ mvs code s.th) : SI code (moveS code model s mv) := by
  obtain ⟨k, d⟩ := mv
  obtain ⟨hk, hc⟩ := (mem_mvs code s.th (k, d)).1 hm
  dsimp only at hk hc
  unfold moveS
  cases d
  · have hpc : (s.th k).pc < (code[k]?.getD []).length := canS_pc (by simpa using hc)
    show SI code (stepS code model k s)
    unfold stepS stpM stpT
    have hx : ∀ c v, (insOf code k (s.th k).pc).op = 1 → (insOf code k (s.th k).pc).cell = c → (insOf code k (s.th k).pc).val = v → Strd code c v := fun c v h1 h2 h3 => Or.inr ⟨k, _, hk, hpc, h1, h2, h3⟩
    have hy : ∀ r c v, (insOf code k (s.th k).pc).op = 2 → (insOf code k (s.th k).pc).reg = r → (insOf code k (s.th k).pc).cell = c → Strd code c v → Rddn code k r v := fun r c v h1 h2 h3 h4 => Or.inr ⟨_, hpc, h1, h2, by rw [h3]; exact h4⟩
    generalize insOf code k (s.th k).pc = x at *
    refine ⟨fun c => ?_, fun j hj r => ?_, fun j hj y hy' => ?_⟩
    · dsimp only
      split
      · rename_i h1
        by_cases hcc : c = x.cell
        · subst hcc; rw [updN_same]; exact hx _ _ h1.1 rfl rfl
        · rw [updN_other _ _ hcc]; exact h.mem c
      · exact h.mem c
    · dsimp only
      by_cases hjk : j = k
      · subst hjk
        rw [updN_same]
        dsimp only
        split
        · rename_i h2
          by_cases hr : r = x.reg
          · subst hr
            by_cases hl : x.reg < (s.th j).regs.length
            · rw [List.getElem?_set_self hl]
              exact hy _ _ _ h2 rfl rfl (loadS_str h hj _)
            · rw [List.getElem?_eq_none (by simp; omega)]
              exact Or.inl rfl
          · rw [List.getElem?_set_ne (fun e => hr e.symm)]
            exact h.reg j hj r
        · exact h.reg j hj r
      · rw [updN_other _ _ hjk]; exact h.reg j hj r
    · dsimp only at hy'
      by_cases hjk : j = k
      · subst hjk
        rw [updN_same] at hy'
        dsimp only at hy'
        split at hy'
        · rename_i h1
          rcases List.mem_append.1 hy' with hm' | hm'
          · exact h.buf j hj y hm'
          · simp at hm'
            subst hm'
            exact hx _ _ h1.1 rfl rfl
        · exact h.buf j hj y hy'
      · rw [updN_other _ _ hjk] at hy'; exact h.buf j hj y hy'
  · show SI code (drainS k s)
    unfold drainS
    split
    · exact h
    · rename_i x l hb
      have hxb := h.buf k hk
      rw [hb] at hxb
      refine ⟨fun c => ?_, fun j hj r => ?_, fun j hj y hy => ?_⟩
      · dsimp only
        by_cases hcc : c = x.cell
        · subst hcc; rw [updN_same]; exact hxb x (by simp)
        · rw [updN_other _ _ hcc]; exact h.mem c
      · dsimp only
        by_cases hjk : j = k
        · subst hjk; rw [updN_same]; exact h.reg j hj r
        · rw [updN_other _ _ hjk]; exact h.reg j hj r
      · dsimp only at hy
        by_cases hjk : j = k
        · subst hjk; rw [updN_same] at hy; exact hxb y (List.mem_cons_of_mem _ hy)
        · rw [updN_other _ _ hjk] at hy; exact h.buf j hj y hy

theorem sane_core (code : List (List RIns)) (model : Nat) (script : List Int) :
    (∀ k r, k < code.length → r < 16 → Rddn code k r ((endS code.length (playS code model script))[k * 16 + r]?.getD 0)) ∧ ∀ c, c < 16 → Strd code c ((endS code.length (playS code model script))[code.length * 16 + c]?.getD 0) := by
  have h := play_keeps code model (SI code) (SI.init code) (fun s mv hs hm => SI.move hs hm) script
  refine ⟨fun k r hk hr => ?_, fun c hc => ?_⟩
  · rw [endS_reg _ _ hk hr]; exact h.reg k hk r
  · rw [endS_mem _ _ hc]; exact h.mem c

end Go.Proofs.Ytokfiflflcfidab
