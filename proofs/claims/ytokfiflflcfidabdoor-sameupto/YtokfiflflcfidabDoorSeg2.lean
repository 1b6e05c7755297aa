import Derived.Test.YtokfiflflcfidabDoorSeg
namespace Go.Proofs.YtokfiflflcfidabDoor
open Go.RowKit

/-- the value and the claim's lack of event i -/
def vaOf (L : List Nat) (i : Nat) : Nat := ((eventsL L)[i]?.getD ev0).va
def prv (L : List Nat) (i : Nat) : Nat := (i + L.length - 1) % L.length
def thrOf (L : List Nat) (i : Nat) : Nat := (L.take i).countP lT
def kd (L : List Nat) (i : Nat) : Bool := bW (L[i]?.getD 0)

theorem cell_lt (L : List Nat) (hL : Lay L) (i : Nat) : cellOf L i < L.countP lC := Nat.mod_lt _ hL.some

theorem ev_row (L : List Nat) (hL : Lay L) (s k : Nat) (ho : Opn L s) (hk : k ≤ runE L s) :
    (eventsL L)[(s + k) % L.length]?.getD ev0 = ⟨kd L ((s + k) % L.length), thrOf L ((s + k) % L.length), cellOf L ((s + k) % L.length), L[(s + k) % L.length]?.getD 0, sw L s (k + 1), !kd L ((s + k) % L.length) && runE L s == 0⟩ := by
  have h := cell_val L hL (L.countP lC) s k ho hk
  rw [if_pos (cell_lt L hL s)] at h
  exact h

theorem prv_row (L : List Nat) (hL : Lay L) (s k : Nat) (hk : 0 < k) : prv L ((s + k) % L.length) = (s + (k - 1)) % L.length := by
  have hp := hL.pos
  unfold prv
  rw [show (s + k) % L.length + L.length - 1 = (s + k) % L.length + (L.length - 1) from by omega, Nat.mod_add_mod,
    show s + k + (L.length - 1) = s + (k - 1) + L.length from by omega, Nat.add_mod_right]
theorem prv_open (L : List Nat) (s : Nat) (ho : Opn L s) : prv L (s % L.length) = s - 1 := by
  have h1 := ho.1
  have h2 := ho.2.1
  unfold prv
  rw [Nat.mod_eq_of_lt h2, show s + L.length - 1 = (s - 1) + L.length from by omega, Nat.add_mod_right, Nat.mod_eq_of_lt (by omega)]

/-- event i: all of it but its value -/
theorem ev_stat (L : List Nat) (hL : Lay L) (i : Nat) (hi : i < L.length) :
    (eventsL L)[i]?.getD ev0 = ⟨kd L i, thrOf L i, cellOf L i, L[i]?.getD 0, vaOf L i, !kd L i && (lC (L[prv L i]?.getD 0) && lC (L[i]?.getD 0))⟩ := by
  obtain ⟨s, k, ho, hk, rfl⟩ := at_row L hL i hi
  have h := ev_row L hL s k ho hk
  unfold vaOf
  rw [h]
  have hlo : (runE L s == 0) = (lC (L[prv L ((s + k) % L.length)]?.getD 0) && lC (L[(s + k) % L.length]?.getD 0)) := by
    have hlt := runE_lt L hL s
    by_cases h0 : k = 0
    · subst h0
      rw [Nat.add_zero s, prv_open L s ho, ho.2.2, Bool.true_and]
      have hs := Nat.mod_eq_of_lt ho.2.1
      by_cases hr : runE L s = 0
      · have := runE_end L s hlt
        rw [hr, Nat.add_zero] at this
        rw [hr, this]; rfl
      · have := runE_step L s 0 (by omega)
        rw [Nat.add_zero] at this
        rw [this, beq_eq_false_iff_ne.2 hr]
    · rw [prv_row L hL s k (by omega), runE_step L s (k - 1) (by omega), Bool.false_and, beq_eq_false_iff_ne]
      omega
  rw [hlo]

theorem va_row (L : List Nat) (hL : Lay L) (s k : Nat) (ho : Opn L s) (hk : k ≤ runE L s) : vaOf L ((s + k) % L.length) = sw L s (k + 1) := by
  unfold vaOf; rw [ev_row L hL s k ho hk]

/-- a value, from the event ahead -/
theorem va_rec (L : List Nat) (hL : Lay L) (i : Nat) (hi : i < L.length) : vaOf L i = (if lC (L[prv L i]?.getD 0) then 0 else vaOf L (prv L i)) + b1 (kd L i) := by
  obtain ⟨s, k, ho, hk, rfl⟩ := at_row L hL i hi
  rw [va_row L hL s k ho hk]
  by_cases h0 : k = 0
  · subst h0
    rw [Nat.add_zero s, prv_open L s ho, ho.2.2, if_pos rfl, sw_succ]
    rfl
  · rw [prv_row L hL s k (by omega), runE_step L s (k - 1) (by omega), va_row L hL s (k - 1) ho (by omega), show k - 1 + 1 = k from by omega, sw_succ]
    rfl

/-- two writes of one cell have two values -/
theorem va_inj (L : List Nat) (hL : Lay L) {i j : Nat} (hi : i < L.length) (hj : j < L.length) (wi : kd L i = true) (wj : kd L j = true) (hc : cellOf L i = cellOf L j) (hv : vaOf L i = vaOf L j) : i = j := by
  obtain ⟨s, k, ho, hk, rfl⟩ := at_row L hL i hi
  obtain ⟨t, m, ho', hm, rfl⟩ := at_row L hL j hj
  rw [cell_run L hL s k ho.2.1 hk, cell_run L hL t m ho'.2.1 hm] at hc
  have := opn_one L ho ho' hc
  subst this
  rw [va_row L hL s k ho hk, va_row L hL s m ho hm] at hv
  unfold kd at wi wj
  rcases Nat.lt_trichotomy k m with h | h | h
  · have h1 := sw_mono L s (show k + 1 ≤ m by omega)
    rw [sw_succ L s m, wj] at hv
    have : b1 true = 1 := rfl
    omega
  · rw [h]
  · have h1 := sw_mono L s (show m + 1 ≤ k by omega)
    rw [sw_succ L s k, wi] at hv
    have : b1 true = 1 := rfl
    omega

theorem va_pos (L : List Nat) (hL : Lay L) {i : Nat} (hi : i < L.length) (wi : kd L i = true) : 1 ≤ vaOf L i := by
  rw [va_rec L hL i hi, wi, show b1 true = 1 from rfl]; omega

/-- so many places of a list at which p holds -/
theorem count_of {α : Type} (p : α → Bool) (d : α) (l : List α) (xs : List Nat) (hnd : xs.Nodup) (h : ∀ x ∈ xs, x < l.length ∧ p (l[x]?.getD d) = true) : xs.length ≤ l.countP p := by
  induction hn : l.length generalizing l xs with
  | zero =>
    cases xs with
    | nil => simp
    | cons x xs => have := (h x (List.mem_cons_self)).1; omega
  | succ n ih =>
    have hsp : l.take n ++ [l[n]?.getD d] = l := by
      have h1 := List.take_succ_eq_append_getElem (l := l) (i := n) (by omega)
      rw [List.take_of_length_le (by omega)] at h1
      rw [show l[n]?.getD d = l[n]'(by omega) from by simp [show n < l.length from by omega]]
      exact h1.symm
    have hys := ih (l.take n) (xs.filter (· != n)) (List.Sublist.nodup List.filter_sublist hnd) (by
      intro x hx
      rw [List.mem_filter] at hx
      have h1 := h x hx.1
      have h2 : x ≠ n := by simpa using hx.2
      refine ⟨by simp; omega, ?_⟩
      rw [List.getElem?_take_of_lt (by omega)]
      exact h1.2) (by simp; omega)
    have hcount : l.countP p = (l.take n).countP p + b1 (p (l[n]?.getD d)) := by
      conv => lhs; rw [← hsp]
      rw [List.countP_append]
      simp [List.countP_cons, b1]
    have hlen : xs.length ≤ (xs.filter (· != n)).length + b1 (p (l[n]?.getD d)) := by
      by_cases hm : n ∈ xs
      · have h1 := (h n hm).2
        rw [h1, show b1 true = 1 from rfl]
        have e1 : xs.erase n = xs.filter (· != n) := List.Nodup.erase_eq_filter hnd n
        rw [← e1, List.length_erase_of_mem hm]
        omega
      · have : xs.filter (· != n) = xs := by
          rw [List.filter_eq_self]
          intro a ha
          have : a ≠ n := fun e => hm (e ▸ ha)
          simpa using this
        rw [this]; omega
    omega

theorem events_length (L : List Nat) : (eventsL L).length = L.length := by
  have := (Stat.cell (ev1 L) (L.countP lC)).1
  rw [ev1_length] at this
  exact this

/-- how many writes cell c has -/
def wrs (L : List Nat) (c : Nat) : Nat := (eventsL L).countP (isW c)

theorem isW_at (L : List Nat) (hL : Lay L) (c i : Nat) (hi : i < L.length) : isW c ((eventsL L)[i]?.getD ev0) = (kd L i && cellOf L i == c) := by
  rw [ev_stat L hL i hi]; rfl

theorem va_le (L : List Nat) (hL : Lay L) {i : Nat} (hi : i < L.length) : vaOf L i ≤ wrs L (cellOf L i) := by
  obtain ⟨s, k, ho, hk, rfl⟩ := at_row L hL i hi
  have hlt := runE_lt L hL s
  rw [va_row L hL s k ho hk, cell_run L hL s k ho.2.1 hk]
  have h1 := count_of (isW (cellOf L s)) ev0 (eventsL L) ((segTo L.length s (k + 1)).filter (kd L)) (List.Sublist.nodup List.filter_sublist (seg_nodup _ _ _ (by omega))) (by
    intro x hx
    rw [List.mem_filter] at hx
    simp only [segTo, List.mem_map, List.mem_range] at hx
    obtain ⟨⟨m, hm, rfl⟩, hw⟩ := hx
    have hx' := Nat.mod_lt (s + m) hL.pos
    refine ⟨by rw [events_length]; exact hx', ?_⟩
    rw [isW_at L hL _ _ hx', hw, cell_run L hL s m ho.2.1 (by omega)]
    simp)
  have h2 : ((segTo L.length s (k + 1)).filter (kd L)).length = sw L s (k + 1) := by
    rw [← List.countP_eq_length_filter]
    unfold segTo sw
    rw [List.countP_map]
    rfl
  rw [h2] at h1
  exact h1

/-- two places at which p holds -/
theorem two_of {α : Type} (p : α → Bool) (d : α) (l : List α) (h : 2 ≤ l.countP p) : ∃ i j, i < j ∧ j < l.length ∧ p (l[i]?.getD d) = true ∧ p (l[j]?.getD d) = true := by
  induction l with
  | nil => simp at h
  | cons a l ih =>
    rw [List.countP_cons] at h
    by_cases ha : p a = true
    · rw [if_pos ha] at h
      obtain ⟨x, hx, hpx⟩ := List.countP_pos_iff.1 (show 0 < l.countP p by omega)
      obtain ⟨j, hj, rfl⟩ := List.getElem_of_mem hx
      exact ⟨0, j + 1, by omega, by simpa using hj, by simpa using ha, by simpa [hj] using hpx⟩
    · rw [if_neg ha] at h
      obtain ⟨i, j, h1, h2, h3, h4⟩ := ih h
      exact ⟨i + 1, j + 1, by omega, by simpa using h2, by simpa using h3, by simpa using h4⟩
theorem one_of {α : Type} (p : α → Bool) (d : α) (l : List α) (h : 1 ≤ l.countP p) : ∃ i, i < l.length ∧ p (l[i]?.getD d) = true := by
  obtain ⟨x, hx, hpx⟩ := List.countP_pos_iff.1 (show 0 < l.countP p by omega)
  obtain ⟨j, hj, rfl⟩ := List.getElem_of_mem hx
  exact ⟨j, hj, by simpa [hj] using hpx⟩

/-- a cell with two writes: the first and the second -/
theorem two_writes (L : List Nat) (hL : Lay L) (c : Nat) (h : wrs L c = 2) : ∃ i j, i < L.length ∧ j < L.length ∧ kd L i = true ∧ kd L j = true ∧ cellOf L i = c ∧ cellOf L j = c ∧ vaOf L i = 1 ∧ vaOf L j = 2 := by
  obtain ⟨i, j, hij, hj, h1, h2⟩ := two_of (isW c) ev0 (eventsL L) (by unfold wrs at h; omega)
  rw [events_length] at hj
  rw [isW_at L hL _ _ (by omega), Bool.and_eq_true, beq_iff_eq] at h1 h2
  have a1 := va_pos L hL (show i < L.length by omega) h1.1
  have a2 := va_pos L hL hj h2.1
  have b1 := va_le L hL (show i < L.length by omega)
  have b2 := va_le L hL hj
  rw [h1.2, h] at b1
  rw [h2.2, h] at b2
  have hne : vaOf L i ≠ vaOf L j := by
    intro e
    have := va_inj L hL (by omega) hj h1.1 h2.1 (h1.2.trans h2.2.symm) e
    omega
  by_cases hi1 : vaOf L i = 1
  · exact ⟨i, j, by omega, hj, h1.1, h2.1, h1.2, h2.2, hi1, by omega⟩
  · exact ⟨j, i, hj, by omega, h2.1, h1.1, h2.2, h1.2, by omega, by omega⟩

/-- the program's count, going back from event i -/
def vB (L : List Nat) : Nat → Nat → Nat
  | 0, _ => 0
  | f + 1, i => b1 (kd L i) + if lC (L[prv L i]?.getD 0) then 0 else vB L f (prv L i)
theorem vB_row (L : List Nat) (hL : Lay L) (s : Nat) (ho : Opn L s) (k f : Nat) (hk : k ≤ runE L s) (hf : k < f) : vB L f ((s + k) % L.length) = sw L s (k + 1) := by
  induction k generalizing f with
  | zero =>
    obtain ⟨f, rfl⟩ : ∃ g, f = g + 1 := ⟨f - 1, by omega⟩
    rw [vB, Nat.add_zero s, prv_open L s ho, ho.2.2, if_pos rfl, sw_succ]
    simp [sw, kd]
  | succ k ih =>
    obtain ⟨f, rfl⟩ : ∃ g, f = g + 1 := ⟨f - 1, by omega⟩
    rw [vB, prv_row L hL s (k + 1) (by omega), show k + 1 - 1 = k from by omega, runE_step L s k (by omega), if_neg (by simp), ih f (by omega) (by omega), sw_succ L s (k + 1)]
    unfold kd
    omega
theorem vB_eq (L : List Nat) (hL : Lay L) (i : Nat) (hi : i < L.length) : vB L L.length i = vaOf L i := by
  obtain ⟨s, k, ho, hk, rfl⟩ := at_row L hL i hi
  have := runE_lt L hL s
  rw [vB_row L hL s ho k _ hk (by omega), va_row L hL s k ho hk]

end Go.Proofs.YtokfiflflcfidabDoor
