import Derived.Test.YtokfiflflcfidabStM
namespace Go.Proofs.Ytokfiflflcfidab
open Go.RowKit

/-- how much is left to do for the threads below k -/
def muTo (code : List (List RIns)) (s : St) : Nat → Nat
  | 0 => 0
  | k + 1 => muTo code s k + (2 * ((code[k]?.getD []).length - (s.th k).pc) + (s.th k).buf.length)
def mu (code : List (List RIns)) (s : St) : Nat := muTo code s code.length

theorem mem_mvTo (code : List (List RIns)) (th : Nat → Th) (n : Nat) (mv : Nat × Bool) : mv ∈ mvTo code th n ↔ mv.1 < n ∧ ((mv.2 = false ∧ canS code th mv.1 = true) ∨ (mv.2 = true ∧ (th mv.1).buf.isEmpty = false)) := by
  induction n with
  | zero => simp [mvTo]
  | succ n ih =>
    obtain ⟨k, b⟩ := mv
    simp only [mvTo, List.mem_append, ih]
    constructor
    · rintro ((⟨h1, h2⟩ | h) | h)
      · exact ⟨by omega, h2⟩
      · split at h
        · rename_i hc
          simp only [List.mem_singleton, Prod.mk.injEq] at h
          obtain ⟨rfl, rfl⟩ := h
          exact ⟨by omega, Or.inl ⟨rfl, hc⟩⟩
        · cases h
      · split at h
        · cases h
        · rename_i hc
          simp only [List.mem_singleton, Prod.mk.injEq] at h
          obtain ⟨rfl, rfl⟩ := h
          exact ⟨by omega, Or.inr ⟨rfl, by simpa using hc⟩⟩
    · rintro ⟨h1, h2⟩
      by_cases hk : k = n
      · subst hk
        rcases h2 with ⟨h3, h4⟩ | ⟨h3, h4⟩
        · subst h3
          exact Or.inl (Or.inr (by rw [if_pos h4]; simp))
        · subst h3
          exact Or.inr (by rw [if_neg (by simp [h4])]; simp)
      · exact Or.inl (Or.inl ⟨by omega, h2⟩)
theorem mem_mvs (code : List (List RIns)) (th : Nat → Th) (mv : Nat × Bool) : mv ∈ mvs code th ↔ mv.1 < code.length ∧ ((mv.2 = false ∧ canS code th mv.1 = true) ∨ (mv.2 = true ∧ (th mv.1).buf.isEmpty = false)) := mem_mvTo code th _ mv

theorem muTo_congr (code : List (List RIns)) (s s' : St) (n : Nat) (h : ∀ k, k < n → s'.th k = s.th k) : muTo code s' n = muTo code s n := by
  induction n with
  | zero => rfl
  | succ n ih => rw [muTo, muTo, ih (fun k hk => h k (by omega)), h n (by omega)]
/-- a thread that has less left, the others as they were -/
theorem muTo_drop (code : List (List RIns)) (s s' : St) (k n : Nat) (hk : k < n) (h : ∀ j, j ≠ k → s'.th j = s.th j) (hd : 2 * ((code[k]?.getD []).length - (s'.th k).pc) + (s'.th k).buf.length + 1 ≤ 2 * ((code[k]?.getD []).length - (s.th k).pc) + (s.th k).buf.length) : muTo code s' n + 1 ≤ muTo code s n := by
  induction n with
  | zero => omega
  | succ n ih =>
    rw [muTo, muTo]
    by_cases hkn : k = n
    · subst hkn
      rw [muTo_congr code s s' k (fun j hj => h j (by omega))]
      omega
    · have := ih (by omega)
      rw [h n (by omega)]
      omega
theorem mu_move (code : List (List RIns)) (model : Nat) (_hm : model = 0 ∨ model = 1) (s : St) (mv : Nat × Bool) (h : mv ∈ mvs code s.th) : mu code (moveS code model s mv) + 1 ≤ mu code s := by
  obtain ⟨hk, h2⟩ := (mem_mvs code s.th mv).1 h
  obtain ⟨k, b⟩ := mv
  dsimp only at hk h2
  rcases h2 with ⟨rfl, hc⟩ | ⟨rfl, hb⟩
  · have hpc := canS_pc hc
    refine muTo_drop code s _ k _ hk (fun j hj => ?_) ?_
    · show updN s.th k _ j = _
      rw [updN_other _ _ hj]
    · show 2 * (_ - ((updN s.th k _) k).pc) + ((updN s.th k _) k).buf.length + 1 ≤ _
      rw [updN_same]
      unfold stpT
      dsimp only
      split
      · simp; omega
      · omega
  · obtain ⟨x, l, hl⟩ : ∃ x l, (s.th k).buf = x :: l := by
      cases hx : (s.th k).buf with
      | nil => simp [hx] at hb
      | cons x l => exact ⟨x, l, rfl⟩
    have hd : moveS code model s (k, true) = ⟨updN s.mem x.cell x.val, updN s.th k { s.th k with buf := l }⟩ := by
      show drainS k s = _
      unfold drainS
      rw [hl]
    rw [hd]
    refine muTo_drop code s _ k _ hk (fun j hj => ?_) ?_
    · show updN s.th k _ j = _
      rw [updN_other _ _ hj]
    · show 2 * (_ - ((updN s.th k _) k).pc) + ((updN s.th k _) k).buf.length + 1 ≤ _
      rw [updN_same, hl]
      simp
      omega
theorem mu_moveN (code : List (List RIns)) (model : Nat) (hm : model = 0 ∨ model = 1) (s : St) (n : Nat) (h : n < (mvs code s.th).length) : mu code (moveN code model s n) + 1 ≤ mu code s := by
  unfold moveN
  rw [List.getElem?_eq_getElem h]
  exact mu_move code model hm s _ (List.getElem_mem h)
theorem mu_run (code : List (List RIns)) (model : Nat) (hm : model = 0 ∨ model = 1) (l : List Int) (s : St) : mu code (runS code model l s) ≤ mu code s := by
  induction l generalizing s with
  | nil => exact Nat.le_refl _
  | cons c l ih =>
    rw [runS]
    split
    · exact Nat.le_refl _
    · rename_i h
      have h1 := ih (moveN code model s (pickN c (mvs code s.th).length))
      have h2 := mu_moveN code model hm s (pickN c (mvs code s.th).length) (pickN_lt _ (by omega))
      omega
theorem mu_settle (code : List (List RIns)) (model : Nat) (hm : model = 0 ∨ model = 1) (n : Nat) (s : St) : (mvs code (settle code model n s).th).length = 0 ∨ mu code (settle code model n s) + n ≤ mu code s := by
  induction n with
  | zero => exact Or.inr (Nat.le_refl _)
  | succ n ih =>
    rw [settle]
    split
    · rename_i h
      rcases ih with h0 | h1
      · omega
      · have := mu_moveN code model hm _ 0 h
        exact Or.inr (by omega)
    · rename_i h
      exact Or.inl (by omega)
theorem muTo_init (code : List (List RIns)) (hS : SndC code) (n : Nat) (hn : n ≤ code.length) : muTo code st0 n ≤ 64 * n := by
  induction n with
  | zero => exact Nat.le_refl _
  | succ n ih =>
    rw [muTo]
    have h1 := ih (by omega)
    have h2 := (hS.2.2 n (by omega)).2.1
    have h3 : (st0.th n).buf.length = 0 := rfl
    rw [h3]
    omega
/-- a play ends where no move is left -/
theorem play_done (code : List (List RIns)) (hS : SndC code) (model : Nat) (hm : model = 0 ∨ model = 1) (l : List Int) : (mvs code (playS code model l).th).length = 0 := by
  unfold playS
  rcases mu_settle code model hm 1024 (runS code model l st0) with h | h
  · exact h
  · have h1 := mu_run code model hm l st0
    have h2 := muTo_init code hS code.length (Nat.le_refl _)
    have h3 := hS.2.1
    have h4 : mu code st0 = muTo code st0 code.length := rfl
    by_cases h5 : 0 < (mvs code (settle code model 1024 (runS code model l st0)).th).length
    · have := mu_moveN code model hm _ 0 h5
      omega
    · omega
theorem play_end (code : List (List RIns)) (hS : SndC code) (model : Nat) (hm : model = 0 ∨ model = 1) (l : List Int) (k : Nat) (hk : k < code.length) : ((playS code model l).th k).buf = [] ∧ (code[k]?.getD []).length ≤ ((playS code model l).th k).pc := by
  have h := play_done code hS model hm l
  have hnil : mvs code (playS code model l).th = [] := List.eq_nil_of_length_eq_zero h
  have hb : ((playS code model l).th k).buf = [] := by
    cases hx : ((playS code model l).th k).buf with
    | nil => rfl
    | cons x t =>
      have := (mem_mvs code (playS code model l).th (k, true)).2 ⟨hk, Or.inr ⟨rfl, by simp [hx]⟩⟩
      rw [hnil] at this
      cases this
  refine ⟨hb, ?_⟩
  apply Nat.le_of_not_lt
  intro hlt
  have := (mem_mvs code (playS code model l).th (k, false)).2 ⟨hk, Or.inl ⟨rfl, by unfold canS; rw [hb]; simp [hlt]⟩⟩
  rw [hnil] at this
  cases this

/-- what every move keeps, a play keeps -/
theorem play_keeps (code : List (List RIns)) (model : Nat) (P : St → Prop) (h0 : P st0) (hs : ∀ s mv, P s → mv ∈ mvs code s.th → P (moveS code model s mv)) (l : List Int) : P (playS code model l) := by
  have hN : ∀ s n, P s → P (moveN code model s n) := by
    intro s n h
    unfold moveN
    cases hx : (mvs code s.th)[n]? with
    | none => exact h
    | some mv => exact hs s mv h (List.mem_of_getElem? hx)
  have hR : ∀ l s, P s → P (runS code model l s) := by
    intro l
    induction l with
    | nil => intro s h; exact h
    | cons c l ih =>
      intro s h
      rw [runS]
      split
      · exact h
      · exact ih _ (hN _ _ h)
  have hT : ∀ n s, P s → P (settle code model n s) := by
    intro n s h
    induction n with
    | zero => exact h
    | succ n ih =>
      rw [settle]
      split
      · exact hN _ _ ih
      · exact ih
  exact hT _ _ (hR _ _ h0)

theorem endS_reg (n : Nat) (s : St) {k r : Nat} (hk : k < n) (hr : r < 16) : (endS n s)[k * 16 + r]?.getD 0 = (s.th k).regs[r]?.getD 0 := by
  have hR : ∀ n, k < n → (regsTo s n)[k * 16 + r]?.getD 0 = (s.th k).regs[r]?.getD 0 := by
    intro n
    induction n with
    | zero => intro h; omega
    | succ n ih =>
      intro h
      rw [regsTo_succ]
      by_cases hkn : k = n
      · subst hkn
        rw [List.getElem?_append_right (by rw [regsTo_length]; omega), regsTo_length, show k * 16 + r - k * 16 = r from by omega]
        exact range16_at _ hr
      · rw [List.getElem?_append_left (by rw [regsTo_length]; omega)]
        exact ih (by omega)
  unfold endS
  rw [List.getElem?_append_left (by rw [regsTo_length]; omega)]
  exact hR n hk
theorem endS_mem (n : Nat) (s : St) {c : Nat} (hc : c < 16) : (endS n s)[n * 16 + c]?.getD 0 = s.mem c := by
  unfold endS
  rw [List.getElem?_append_right (by rw [regsTo_length]; omega), regsTo_length, show n * 16 + c - n * 16 = c from by omega]
  exact range16_at _ hc

end Go.Proofs.Ytokfiflflcfidab
