import Derived.Test.YtokfiflflcfidabPlM
namespace Go.Proofs.Ytokfiflflcfidab
open Go.RowKit

/-- a play, move by move: the state behind n moves -/
def goN (code : List (List RIns)) (model : Nat) (script : List Int) : Nat → St
  | 0 => st0
  | n + 1 => moveN code model (goN code model script n) (if n < script.length then pickN (script[n]?.getD 0) (mvs code (goN code model script n).th).length else 0)
def Going (code : List (List RIns)) (model : Nat) (script : List Int) (n : Nat) : Prop := ∀ m, m < n → 0 < (mvs code (goN code model script m).th).length

theorem runS_stopP (code : List (List RIns)) (model : Nat) (l : List Int) (s : St) (h : (mvs code s.th).length = 0) : runS code model l s = s := by
  cases l with
  | nil => rfl
  | cons c l => rw [runS, if_pos h]
theorem runS_appendP (code : List (List RIns)) (model : Nat) (a b : List Int) (s : St) : runS code model (a ++ b) s = runS code model b (runS code model a s) := by
  induction a generalizing s with
  | nil => rfl
  | cons c a ih =>
    rw [List.cons_append, runS, runS]
    split
    · rename_i h; rw [runS_stopP _ _ _ _ h]
    · exact ih _
theorem go_run (code : List (List RIns)) (model : Nat) (script : List Int) (n : Nat) (hn : n ≤ script.length) (hg : Going code model script n) : runS code model (script.take n) st0 = goN code model script n := by
  induction n with
  | zero => rfl
  | succ n ih =>
    have e : script.take (n + 1) = script.take n ++ [script[n]?.getD 0] := by rw [List.take_succ_eq_append_getElem (by omega)]; simp [show n < script.length by omega]
    rw [e, runS_appendP, ih (by omega) (fun m hm => hg m (by omega)), runS, if_neg (by have := hg n (by omega); omega), runS, goN, if_pos (by omega)]
theorem go_settle (code : List (List RIns)) (model : Nat) (script : List Int) (j : Nat) (hg : Going code model script (script.length + j)) : settle code model j (goN code model script script.length) = goN code model script (script.length + j) := by
  induction j with
  | zero => rfl
  | succ j ih =>
    rw [settle, ih (fun m hm => hg m (by omega)), if_pos (hg (script.length + j) (by omega)), ← Nat.add_assoc, goN, if_neg (by omega)]
theorem settle_stay (code : List (List RIns)) (model : Nat) (s : St) (j i : Nat) (h : (mvs code (settle code model j s).th).length = 0) : settle code model (j + i) s = settle code model j s := by
  induction i with
  | zero => rfl
  | succ i ih => rw [← Nat.add_assoc, settle, ih, if_neg (by omega)]
theorem go_mu (code : List (List RIns)) (model : Nat) (hm : model = 0 ∨ model = 1) (script : List Int) (n : Nat) (hg : Going code model script n) : mu code (goN code model script n) + n ≤ mu code st0 := by
  induction n with
  | zero => exact Nat.le_refl _
  | succ n ih =>
    have h1 := ih (fun m hm => hg m (by omega))
    have h0 := hg n (by omega)
    rw [goN]
    by_cases hn : n < script.length
    · rw [if_pos hn]
      have := mu_moveN code model hm _ (pickN (script[n]?.getD 0) (mvs code (goN code model script n).th).length) (pickN_lt _ h0)
      omega
    · rw [if_neg hn]
      have := mu_moveN code model hm _ 0 h0
      omega
theorem go_le (code : List (List RIns)) (hS : SndC code) (model : Nat) (hm : model = 0 ∨ model = 1) (script : List Int) (n : Nat) (hg : Going code model script n) : n ≤ 1024 := by
  have h1 := go_mu code model hm script n hg
  have h2 := muTo_init code hS code.length (Nat.le_refl _)
  have h3 := hS.2.1
  have h4 : mu code st0 = muTo code st0 code.length := rfl
  omega
/-- where no move is left the play has ended -/
theorem go_play (code : List (List RIns)) (hS : SndC code) (model : Nat) (hm : model = 0 ∨ model = 1) (script : List Int) (n : Nat) (hg : Going code model script n) (he : (mvs code (goN code model script n).th).length = 0) : playS code model script = goN code model script n := by
  have hle := go_le code hS model hm script n hg
  unfold playS
  by_cases hn : n ≤ script.length
  · have h1 := go_run code model script n hn hg
    have h2 : runS code model script st0 = goN code model script n := by
      conv => lhs; rw [← List.take_append_drop n script]
      rw [runS_appendP, h1, runS_stopP _ _ _ _ he]
    rw [h2]
    have := settle_stay code model (goN code model script n) 0 1024 he
    rw [Nat.zero_add] at this
    exact this
  · have h1 := go_run code model script script.length (Nat.le_refl _) (fun m hm => hg m (by omega))
    rw [List.take_length] at h1
    obtain ⟨j, hj⟩ : ∃ j, n = script.length + j := ⟨n - script.length, by omega⟩
    subst hj
    have h2 := go_settle code model script j hg
    rw [h1]
    have h3 := settle_stay code model (goN code model script script.length) j (1024 - j) (by rw [h2]; exact he)
    rw [show j + (1024 - j) = 1024 from by omega] at h3
    rw [h3, h2]

end Go.Proofs.Ytokfiflflcfidab
