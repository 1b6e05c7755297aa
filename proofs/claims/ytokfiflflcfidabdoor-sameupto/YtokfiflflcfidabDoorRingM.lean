import Derived.Test.YtokfiflflcfidabDoorCdM
import Derived.Test.YtokfiflflcfidabDoorBldR
import Derived.Test.YtokfiflflcfidabDoorLawB0
namespace Go.Proofs.YtokfiflflcfidabDoor
open Go.RowKit

/-- the edges of a base, begun behind its last edge to another thread -/
def ringOf (b : List Nat) : List Nat := turn b (outTo b b.length % b.length)

theorem ring_length (b : List Nat) : (ringOf b).length = b.length := turn_length _ _
theorem ring_mem (b : List Nat) (hl : 0 < b.length) : ∀ x ∈ ringOf b, x ∈ b := by
  unfold ringOf
  rw [turn_eq b _ (Nat.le_of_lt (Nat.mod_lt _ hl))]
  intro x hx
  rcases List.mem_append.1 hx with h | h
  · exact List.mem_of_mem_drop h
  · exact List.mem_of_mem_take h
theorem ring_count (p : Nat → Bool) (b : List Nat) (hl : 0 < b.length) : (ringOf b).countP p = b.countP p := countP_turn p b _ (Nat.le_of_lt (Nat.mod_lt _ hl))

theorem outTo_spec (b : List Nat) (n : Nat) : outTo b n = 0 ∧ (∀ i, i < n → lT (b[i]?.getD 0) = false) ∨ 0 < outTo b n ∧ outTo b n ≤ n ∧ lT (b[outTo b n - 1]?.getD 0) = true := by
  induction n with
  | zero => exact Or.inl ⟨rfl, fun i hi => by omega⟩
  | succ n ih =>
    simp only [outTo]
    cases h : lT (b[n]?.getD 0)
    · rw [if_neg (by simp)]
      rcases ih with ⟨h1, h2⟩ | ⟨h1, h2, h3⟩
      · refine Or.inl ⟨h1, fun i hi => ?_⟩
        by_cases hin : i = n
        · rw [hin, h]
        · exact h2 i (by omega)
      · exact Or.inr ⟨h1, by omega, h3⟩
    · rw [if_pos rfl]
      exact Or.inr ⟨by omega, Nat.le_refl _, by simpa using h⟩

/-- the last edge leads to another thread -/
theorem ring_last (b : List Nat) (hl : 0 < b.length) (hT : 0 < b.countP lT) : lT ((ringOf b)[(ringOf b).length - 1]?.getD 0) = true := by
  rw [ring_length]
  have hk := outTo_le b b.length
  rcases outTo_spec b b.length with ⟨_, h2⟩ | ⟨h1, h2, h3⟩
  · exfalso
    obtain ⟨x, hx, hcx⟩ := List.countP_pos_iff.1 hT
    obtain ⟨i, hi, rfl⟩ := List.getElem_of_mem hx
    have := h2 i hi
    simp [hi, hcx] at this
  · unfold ringOf
    rw [turn_mod b _ hk, turn_eq b _ hk]
    generalize outTo b b.length = k at *
    by_cases hkl : k = b.length
    · subst hkl
      rw [List.drop_of_length_le (Nat.le_refl _), List.take_length, List.nil_append]
      exact h3
    · rw [List.getElem?_append_right (by simp; omega)]
      have : b.length - 1 - (b.drop k).length = k - 1 := by simp; omega
      rw [this, List.getElem?_take_of_lt (by omega)]
      exact h3
theorem lT_lC {e : Nat} (h : lT e = true) : lC e = false := by
  unfold lT at h
  simp only [Bool.or_eq_true, beq_iff_eq] at h
  rcases h with (h | h) | h <;> subst h <;> rfl

theorem J_at (l : List Nat) (p : Bool) (h : J p l) : ∀ i, i < l.length → bW (l[i]?.getD 0) = if i = 0 then p else eW (l[i - 1]?.getD 0) := by
  induction l generalizing p with
  | nil => intro i hi; simp at hi
  | cons e l ih =>
    intro i hi
    cases i with
    | zero => simpa using h.1
    | succ i =>
      have := ih (eW e) h.2 i (by simpa using hi)
      rw [if_neg (by omega)]
      by_cases h0 : i = 0
      · subst h0; simpa using this
      · rw [if_neg h0] at this
        simp only [List.getElem?_cons_succ, Nat.add_sub_cancel]
        rw [this]
        obtain ⟨j, rfl⟩ : ∃ j, i = j + 1 := ⟨i - 1, by omega⟩
        simp
theorem Cyc_joins (l : List Nat) (hl : 0 < l.length) (h : Cyc l) (i : Nat) (hi : i < l.length) : kd l (nxt l i) = eW (l[i]?.getD 0) := by
  obtain ⟨p, hJ, he⟩ := h
  have hp : p = eW (l[l.length - 1]?.getD 0) := by rw [← he, endk_last l p hl]
  have := J_at l p hJ (nxt l i) (Nat.mod_lt _ hl)
  unfold kd
  rw [this]
  unfold nxt
  by_cases h1 : i + 1 = l.length
  · rw [h1, Nat.mod_self, if_pos rfl, hp, show l.length - 1 = i from by omega]
  · rw [Nat.mod_eq_of_lt (by omega), if_neg (by omega), Nat.add_sub_cancel]

/-- a checked list of edges: its base's edges in a ring -/
theorem ring_ring (l : List Nat) (hE : ∀ x ∈ l, x < 14) (hl : 0 < l.length) (h : chk l = (0, 0)) : Ring (ringOf (leastOf l)) ∧ lT ((ringOf (leastOf l))[(ringOf (leastOf l)).length - 1]?.getD 0) = true := by
  have hc := h
  unfold chk at h
  by_cases h1 : unj l < l.length
  · rw [if_pos h1] at h; cases h
  rw [if_neg h1] at h
  by_cases h2 : l.countP lT < 2
  · rw [if_pos h2] at h; cases h
  rw [if_neg h2] at h
  by_cases h3 : l.countP lC < 2
  · rw [if_pos h3] at h; cases h
  rw [if_neg h3] at h
  obtain ⟨r, hr, hR⟩ := leastOf_is l hl
  have hB : 0 < (leastOf l).length := by rw [hR, turn_length]; exact hl
  have hC1 : (leastOf l).countP lC = l.countP lC := by rw [hR]; exact countP_turn _ _ _ (by omega)
  have hT1 : (leastOf l).countP lT = l.countP lT := by rw [hR]; exact countP_turn _ _ _ (by omega)
  have hcy : Cyc (leastOf l) := by rw [hR]; exact Cyc_turn l r (by omega) (Cyc_of l hl h1)
  have hlast := ring_last (leastOf l) hB (by omega)
  have hcy2 : Cyc (ringOf (leastOf l)) := Cyc_turn _ _ (Nat.le_of_lt (Nat.mod_lt _ hB)) hcy
  have hRl : 0 < (ringOf (leastOf l)).length := by rw [ring_length]; exact hB
  have hLay : Lay (ringOf (leastOf l)) := ⟨hRl, lT_lC hlast, by rw [ring_count lC _ hB]; omega⟩
  refine ⟨⟨hLay, ?_, ?_, ?_⟩, hlast⟩
  · intro x hx
    have h4 := ring_mem _ hB x hx
    rw [hR, turn_eq l r (by omega)] at h4
    rcases List.mem_append.1 h4 with h | h
    · exact hE x (List.mem_of_mem_drop h)
    · exact hE x (List.mem_of_mem_take h)
  · exact fun i hi => Cyc_joins _ hRl hcy2 i hi
  · intro c
    by_cases hcc : c < l.countP lC
    · have hrc : rchk l = (0, 0) := by rw [chk_eq l hl]; exact hc
      have hnb : ¬ big l := by
        intro hb
        have hm : 2 < mcw l := (mcw_big l (by omega)).2 hb
        rw [if_pos hm] at h
        cases h
      have hw : ¬ (firstNo (wrP (leastOf l)) (l.countP lC) < l.countP lC) := fun h => hnb ((writes_big l hl (Cyc_of l hl h1)).1 h)
      have hall : firstNo (wrP (leastOf l)) (l.countP lC) = l.countP lC := by have := firstNo_le (wrP (leastOf l)) (l.countP lC); omega
      have := firstNo_yes (wrP (leastOf l)) (l.countP lC) c (by rw [hall]; exact hcc)
      unfold wrP at this
      have h5 : ¬ (2 < (eventsOf (leastOf l)).countP (isW c)) := by simpa using this
      have h6 : (eventsOf (leastOf l)).countP (isW c) = wrs (ringOf (leastOf l)) c := rfl
      omega
    · have hz : wrs (ringOf (leastOf l)) c = 0 := by
        unfold wrs
        rw [List.countP_eq_zero]
        intro x hx
        obtain ⟨i, hi, rfl⟩ := List.getElem_of_mem hx
        rw [events_length] at hi
        have h7 := isW_at _ hLay c i hi
        have h8 : (eventsL (ringOf (leastOf l)))[i]?.getD ev0 = (eventsL (ringOf (leastOf l)))[i]'(by rw [events_length]; exact hi) := by simp [events_length, hi]
        rw [h8] at h7
        rw [h7]
        have h9 := cell_lt _ hLay i
        rw [ring_count lC _ hB, hC1] at h9
        simp
        intro _
        omega
      omega

theorem events_map (L : List Nat) (hL : Lay L) : (eventsL L) = (List.range L.length).map fun i => ⟨kd L i, thrOf L i, cellOf L i, L[i]?.getD 0, vaOf L i, !kd L i && lone L i⟩ := by
  apply List.ext_getElem
  · simp [events_length]
  · intro i h1 h2
    rw [events_length] at h1
    have := ev_stat L hL i h1
    have h8 : (eventsL L)[i]?.getD ev0 = (eventsL L)[i]'(by rw [events_length]; exact h1) := by simp [events_length, h1]
    rw [h8] at this
    rw [this]
    simp [lone]
/-- the program counts the writes of a cell as the document does -/
theorem cw_wrs (L : List Nat) (hL : Lay L) (c : Nat) : cwTo L c L.length = wrs L c := by
  unfold wrs cwTo
  rw [events_map L hL, List.countP_map]
  rfl
/-- what the program claims of -/
theorem claimed_eq (L : List Nat) (hR : Ring L) (i : Nat) (hi : i < L.length) : (!bW (L[i]?.getD 0) && (isRf (L[prv L i]?.getD 0) || isFr (L[i]?.getD 0))) = (!kd L i && !lone L i) := by
  have hL := hR.toLay
  have hp := prv_lt L hL i
  have hj := hR.joins (prv L i) hp
  rw [nxt_prv L hL hi] at hj
  have e1 := getD_lt hR.small (prv L i)
  have e2 := getD_lt hR.small i
  unfold lone
  unfold kd at hj ⊢
  generalize L[prv L i]?.getD 0 = a at *
  generalize L[i]?.getD 0 = e at *
  cases hb : bW e
  · rw [hb] at hj
    have k1 : isRf a = !lC a := by
      rcases cases14 e1 with h | h | h | h | h | h | h | h | h | h | h | h | h | h <;> rw [h] at hj ⊢ <;> revert hj <;> decide
    have k2 : isFr e = !lC e := by
      rcases cases14 e2 with h | h | h | h | h | h | h | h | h | h | h | h | h | h <;> rw [h] at hb ⊢ <;> revert hb <;> decide
    rw [k1, k2]
    cases lC a <;> cases lC e <;> rfl
  · rfl

end Go.Proofs.YtokfiflflcfidabDoor
