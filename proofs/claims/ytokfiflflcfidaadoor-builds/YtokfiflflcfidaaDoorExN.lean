import Derived.Test.YtokfiflflcfidaaDoorCdM
import Derived.Test.YtokfiflflcfidaaDoorChzX
import Derived.Test.YtokfiflflcfidaaDoorEndW
import Derived.Test.YtokfiflflcfidaaDoorRndW
import Derived.Test.YtokfiflflcfidaaDoorSndM
namespace Go.Proofs.YtokfiflflcfidaaDoor
open Go.RowKit

theorem mem_wsTo (l : List Ev) (i k x : Nat) : x ∈ wsTo l i k ↔ x < k ∧ isW (l[i]?.getD ev0).ce (l[x]?.getD ev0) = true := by
  induction k with
  | zero => simp [wsTo]
  | succ k ih =>
    rw [wsTo, List.mem_append, ih]
    constructor
    · rintro (⟨h1, h2⟩ | h)
      · exact ⟨by omega, h2⟩
      · split at h
        · rename_i hc
          simp at h
          subst h
          exact ⟨by omega, hc⟩
        · cases h
    · rintro ⟨h1, h2⟩
      by_cases hx : x = k
      · subst hx
        exact Or.inr (by rw [if_pos h2]; simp)
      · exact Or.inl ⟨by omega, h2⟩
theorem wsTo_count (l : List Ev) (i k : Nat) (hk : k ≤ l.length) : (wsTo l i k).length = (l.take k).countP (isW (l[i]?.getD ev0).ce) := by
  induction k with
  | zero => simp [wsTo]
  | succ k ih =>
    rw [wsTo, List.length_append, ih (by omega), countW_succ _ l k (by omega)]
    split <;> simp
theorem wsTo_congr (l : List Ev) {i j : Nat} (h : (l[i]?.getD ev0).ce = (l[j]?.getD ev0).ce) (k : Nat) : wsTo l i k = wsTo l j k := by
  induction k with
  | zero => rfl
  | succ k ih => rw [wsTo, wsTo, ih, h]
theorem mine_mono (l : List Ev) {i j : Nat} (hij : i < j) (hw : (l[i]?.getD ev0).wr = true) (hc : (l[i]?.getD ev0).ce = (l[j]?.getD ev0).ce) : mineOf l i < mineOf l j := by
  unfold mineOf
  rw [← wsTo_congr l hc j]
  have h1 := wsTo_mono l i (show i + 1 ≤ j by omega)
  rw [wsTo, List.length_append, if_pos (show isW (l[i]?.getD ev0).ce (l[i]?.getD ev0) = true by unfold isW; rw [hw]; simp)] at h1
  simp at h1
  omega

section
variable (L : List Nat) (hR : Ring L) (ps : List Int)

theorem E_wr {L : List Nat} (hL : Lay L) {i : Nat} (hi : i < L.length) : ((eventsL L)[i]?.getD ev0).wr = kd L i := by rw [ev_stat L hL i hi]
theorem E_th {L : List Nat} (hL : Lay L) {i : Nat} (hi : i < L.length) : ((eventsL L)[i]?.getD ev0).th = thrOf L i := by rw [ev_stat L hL i hi]
theorem E_ce {L : List Nat} (hL : Lay L) {i : Nat} (hi : i < L.length) : ((eventsL L)[i]?.getD ev0).ce = cellOf L i := by rw [ev_stat L hL i hi]
theorem E_af {L : List Nat} (hL : Lay L) {i : Nat} (hi : i < L.length) : ((eventsL L)[i]?.getD ev0).af = L[i]?.getD 0 := by rw [ev_stat L hL i hi]
theorem E_va {L : List Nat} (_hL : Lay L) {i : Nat} (_hi : i < L.length) : ((eventsL L)[i]?.getD ev0).va = vaOf L i := rfl

def FR (L : List Nat) (ps : List Int) (i : Nat) : Nat := frmOf (eventsL L) ps i
def PL (L : List Nat) (ps : List Int) (i : Nat) : Nat := plcOf (eventsL L) ps i

theorem ws_len {L : List Nat} (hL : Lay L) {i : Nat} (hi : i < L.length) : (wsOf (eventsL L) i).length = wrs L (cellOf L i) := by
  unfold wsOf
  rw [wsTo_count _ _ _ (Nat.le_refl _), List.take_length, E_ce hL hi]
  rfl

theorem choice_ok {L : List Nat} (hL : Lay L) (ps : List Int) : Choice L (FR L ps) (PL L ps) := by
  refine ⟨fun i hi hk => ?_⟩
  unfold FR frmOf
  rw [E_wr hL hi, hk]
  simp only [Bool.false_eq_true, if_false]
  by_cases h0 : pkN ps i ((wsOf (eventsL L) i).length + 1) = 0
  · rw [if_pos h0]; exact Or.inl rfl
  · rw [if_neg h0]
    have hlt := pkN_lt ps i (n := (wsOf (eventsL L) i).length + 1) (by omega)
    generalize pkN ps i ((wsOf (eventsL L) i).length + 1) = q at *
    have hq : q - 1 < (wsOf (eventsL L) i).length := by omega
    have hm : (wsOf (eventsL L) i)[q - 1]?.getD 0 ∈ wsOf (eventsL L) i := by rw [List.getElem?_eq_getElem hq]; exact List.getElem_mem hq
    obtain ⟨h1, h2⟩ := (mem_wsTo _ _ _ _).1 hm
    rw [events_length] at h1
    rw [E_ce hL hi, isW_at L hL _ _ h1, Bool.and_eq_true, beq_iff_eq] at h2
    exact Or.inr ⟨_, rfl, h1, h2.1, h2.2⟩
theorem FR_le {L : List Nat} (hL : Lay L) (ps : List Int) (i : Nat) (hi : i < L.length) : FR L ps i ≤ L.length := by
  cases hk : kd L i
  · rcases (choice_ok hL ps).from_ i hi hk with h | ⟨j, h, hj, _⟩
    · omega
    · omega
  · unfold FR frmOf
    rw [E_wr hL hi, hk]; simp
theorem FR_write {L : List Nat} (hL : Lay L) (ps : List Int) (i : Nat) (hi : i < L.length) (hk : kd L i = true) : FR L ps i = 0 := by
  unfold FR frmOf
  rw [E_wr hL hi, hk]; simp
theorem PL_read {L : List Nat} (hL : Lay L) (ps : List Int) (i : Nat) (hi : i < L.length) (hk : kd L i = false) : PL L ps i = 0 := by
  unfold PL plcOf
  rw [E_wr hL hi, hk]; simp
theorem PL_lt {L : List Nat} (hL : Lay L) (ps : List Int) (i : Nat) (hi : i < L.length) (hk : kd L i = true) : PL L ps i < wrs L (cellOf L i) := by
  have h1 := mine_lt (eventsL L) i (by rw [events_length]; exact hi) (by rw [E_wr hL hi]; exact hk)
  rw [ws_len hL hi] at h1
  unfold PL plcOf
  rw [E_wr hL hi, hk, if_pos rfl, ws_len hL hi]
  split <;> omega
theorem PL_inj {L : List Nat} (hL : Lay L) (ps : List Int) {i j : Nat} (hi : i < L.length) (hj : j < L.length) (ki : kd L i = true) (kj : kd L j = true) (hc : cellOf L i = cellOf L j) (h : PL L ps i = PL L ps j) : i = j := by
  have hce : ((eventsL L)[i]?.getD ev0).ce = ((eventsL L)[j]?.getD ev0).ce := by rw [E_ce hL hi, E_ce hL hj, hc]
  have m1 := mine_lt (eventsL L) i (by rw [events_length]; exact hi) (by rw [E_wr hL hi]; exact ki)
  have m2 := mine_lt (eventsL L) j (by rw [events_length]; exact hj) (by rw [E_wr hL hj]; exact kj)
  rw [ws_len hL hi] at m1
  rw [ws_len hL hj, ← hc] at m2
  have hm : mineOf (eventsL L) i = mineOf (eventsL L) j := by
    unfold PL plcOf at h
    rw [E_wr hL hi, E_wr hL hj, ki, kj, if_pos rfl, if_pos rfl, ws_len hL hi, ws_len hL hj, ← hc, E_ce hL hi, E_ce hL hj, ← hc] at h
    split at h <;> omega
  rcases Nat.lt_trichotomy i j with h1 | h1 | h1
  · have := mine_mono (eventsL L) h1 (by rw [E_wr hL hi]; exact ki) hce; omega
  · exact h1
  · have := mine_mono (eventsL L) h1 (by rw [E_wr hL hj]; exact kj) hce.symm; omega

/-- where event k's number goes, and which -/
def ixE (l : List Ev) (fr pl : Nat → Nat) (T k : Nat) : Option Nat :=
  if (l[k]?.getD ev0).wr then (if pl k + 1 = l.countP (isW (l[k]?.getD ev0).ce) then some (T * 16 + (l[k]?.getD ev0).ce) else none)
  else if fr k = 0 then none else some ((l[k]?.getD ev0).th * 16 + rgTo l k k)
def vxE (l : List Ev) (fr : Nat → Nat) (k : Nat) : Nat := if (l[k]?.getD ev0).wr then (l[k]?.getD ev0).va else (l[fr k - 1]?.getD ev0).va
theorem endTo_step (l : List Ev) (fr pl : Nat → Nat) (T k : Nat) : endTo l fr pl T (k + 1) = match ixE l fr pl T k with | none => endTo l fr pl T k | some x => (endTo l fr pl T k).set x (vxE l fr k) := by
  rw [endTo]
  unfold ixE vxE
  cases (l[k]?.getD ev0).wr
  · simp only [Bool.false_eq_true, if_false]
    by_cases h : fr k = 0
    · rw [if_pos h, if_pos h]
    · rw [if_neg h, if_neg h]
  · simp only [if_true]
    by_cases h : pl k + 1 = l.countP (isW (l[k]?.getD ev0).ce)
    · rw [if_pos h, if_pos h]
    · rw [if_neg h, if_neg h]
theorem end_none (l : List Ev) (fr pl : Nat → Nat) (T n x : Nat) (h : ∀ k, k < n → ixE l fr pl T k ≠ some x) : (endTo l fr pl T n)[x]?.getD 0 = 0 := by
  induction n with
  | zero =>
    rw [endTo]
    by_cases hx : x < T * 16 + 16
    · simp [hx]
    · simp [hx]
  | succ n ih =>
    have h1 := ih (fun k hk => h k (by omega))
    have h2 := h n (by omega)
    rw [endTo_step]
    cases hi : ixE l fr pl T n with
    | none => exact h1
    | some y =>
      dsimp only
      rw [List.getElem?_set_ne (fun e => h2 (by rw [hi, e]))]
      exact h1
theorem end_one (l : List Ev) (fr pl : Nat → Nat) (T n x k0 : Nat) (hx : x < T * 16 + 16) (hk0 : k0 < n) (hi0 : ixE l fr pl T k0 = some x) (h : ∀ k, k < n → k ≠ k0 → ixE l fr pl T k ≠ some x) : (endTo l fr pl T n)[x]?.getD 0 = vxE l fr k0 := by
  induction n with
  | zero => omega
  | succ n ih =>
    rw [endTo_step]
    by_cases hn : n = k0
    · subst hn
      rw [hi0]
      dsimp only
      rw [List.getElem?_set_self (by rw [endTo_length]; exact hx)]
      rfl
    · have h1 := ih (by omega) (fun k hk => h k (by omega))
      have h2 := h n (by omega) hn
      cases hi : ixE l fr pl T n with
      | none => exact h1
      | some y =>
        dsimp only
        rw [List.getElem?_set_ne (fun e => h2 (by rw [hi, e]))]
        exact h1

theorem rg_reg {L : List Nat} (hL : Lay L) {i : Nat} (hi : i < L.length) : rgTo (eventsL L) i i = regOf L i := by
  unfold rgTo regOf
  apply List.countP_congr
  intro k hk
  have hk' : k < L.length := by have := List.mem_range.1 hk; omega
  rw [E_th hL hk', E_th hL hi, E_wr hL hk']

theorem ix_read {L : List Nat} (hL : Lay L) (fr pl : Nat → Nat) (T : Nat) {i : Nat} (hi : i < L.length) (hk : kd L i = false) : ixE (eventsL L) fr pl T i = if fr i = 0 then none else some (thrOf L i * 16 + regOf L i) := by
  unfold ixE
  rw [E_wr hL hi, hk, E_th hL hi, rg_reg hL hi]
  simp
theorem ix_write {L : List Nat} (hL : Lay L) (fr pl : Nat → Nat) (T : Nat) {i : Nat} (hi : i < L.length) (hk : kd L i = true) : ixE (eventsL L) fr pl T i = if pl i + 1 = wrs L (cellOf L i) then some (T * 16 + cellOf L i) else none := by
  unfold ixE
  rw [E_wr hL hi, hk, E_ce hL hi, if_pos rfl]
  rfl

/-- what a read's register ends with -/
theorem end_reg {L : List Nat} (hL : Lay L) (h16 : L.length ≤ 16) (hlast : lT (L[L.length - 1]?.getD 0) = true) (fr pl : Nat → Nat) (hC : Choice L fr pl) {i : Nat} (hi : i < L.length) (hk : kd L i = false) :
    (endTo (eventsL L) fr pl (L.countP lT) L.length)[thrOf L i * 16 + regOf L i]?.getD 0 = valR L fr i := by
  have hti := thr_lt L hL.pos hlast hi
  have hri := reg_le L i
  have hother : ∀ k, k < L.length → k ≠ i → ixE (eventsL L) fr pl (L.countP lT) k ≠ some (thrOf L i * 16 + regOf L i) := by
    intro k hkl hki
    cases hkk : kd L k
    · rw [ix_read hL fr pl _ hkl hkk]
      by_cases h0 : fr k = 0
      · rw [if_pos h0]; simp
      · rw [if_neg h0]
        have hrk := reg_le L k
        intro e
        have e' : thrOf L k * 16 + regOf L k = thrOf L i * 16 + regOf L i := Option.some.inj e
        have e1 : thrOf L k = thrOf L i := by omega
        have e2 : regOf L k = regOf L i := by omega
        rcases Nat.lt_trichotomy k i with h | h | h
        · have := reg_lt L h e1 hkk; omega
        · exact hki h
        · have := reg_lt L h e1.symm hk; omega
    · rw [ix_write hL fr pl _ hkl hkk]
      split
      · intro e
        have e' : L.countP lT * 16 + cellOf L k = thrOf L i * 16 + regOf L i := Option.some.inj e
        omega
      · simp
  unfold valR
  by_cases h0 : fr i = 0
  · rw [if_pos h0]
    apply end_none
    intro k hkl
    by_cases hki : k = i
    · subst hki
      rw [ix_read hL fr pl _ hkl hk, if_pos h0]; simp
    · exact hother k hkl hki
  · rw [if_neg h0, end_one _ _ _ _ _ _ i (by omega) hi (by rw [ix_read hL fr pl _ hi hk, if_neg h0]) hother]
    unfold vxE
    rw [E_wr hL hi, hk]
    rcases hC.from_ i hi hk with h | ⟨j, hj, hjl, _⟩
    · exact absurd h h0
    · simp only [Bool.false_eq_true, if_false]
      rw [hj, Nat.add_sub_cancel, E_va hL hjl]
/-- what a cell ends with: the number of its last write -/
theorem end_cell {L : List Nat} (hR : Ring L) (h16 : L.length ≤ 16) (hlast : lT (L[L.length - 1]?.getD 0) = true) (fr : Nat → Nat) (ps : List Int) {i : Nat} (hi : i < L.length) (hk : kd L i = true) (hp : PL L ps i + 1 = wrs L (cellOf L i)) :
    (endTo (eventsL L) fr (PL L ps) (L.countP lT) L.length)[L.countP lT * 16 + cellOf L i]?.getD 0 = vaOf L i := by
  have hL := hR.toLay
  have hci := cell_lt L hL i
  have hCle : L.countP lC ≤ L.length := List.countP_le_length
  rw [end_one _ _ _ _ _ _ i (by omega) hi (by rw [ix_write hL _ _ _ hi hk, if_pos hp])]
  · unfold vxE
    rw [E_wr hL hi, hk, E_va hL hi]; rfl
  · intro k hkl hki
    cases hkk : kd L k
    · rw [ix_read hL _ _ _ hkl hkk]
      split
      · simp
      · intro e
        have e' : thrOf L k * 16 + regOf L k = L.countP lT * 16 + cellOf L i := Option.some.inj e
        have := thr_lt L hL.pos hlast hkl
        have := reg_le L k
        omega
    · rw [ix_write hL _ _ _ hkl hkk]
      split
      · rename_i hpk
        intro e
        have e' : L.countP lT * 16 + cellOf L k = L.countP lT * 16 + cellOf L i := Option.some.inj e
        have hc : cellOf L k = cellOf L i := by omega
        rw [hc] at hpk
        exact hki (PL_inj hL ps hkl hi hkk hk hc (by omega))
      · simp

/-- the claims are met at the end of a choice: as the maths say it -/
theorem met_choice {L : List Nat} (hR : Ring L) (h16 : L.length ≤ 16) (hlast : lT (L[L.length - 1]?.getD 0) = true) (ps : List Int) :
    metS (L.countP lT) (wantOf L) (endTo (eventsL L) (FR L ps) (PL L ps) (L.countP lT) L.length) = true ↔ (MetR L (FR L ps) ∧ MetC L (PL L ps)) := by
  have hL := hR.toLay
  rw [met_iff]
  constructor
  · rintro ⟨h1, h2⟩
    refine ⟨fun i hi hk hlo => ?_, fun i j hi hj ki kj hc vi vj => ?_⟩
    · rw [← end_reg hL h16 hlast (FR L ps) (PL L ps) (choice_ok hL ps) hi hk]
      exact h1 i hi hk hlo
    · have hle := va_le L hL hj
      have hfew := hR.few (cellOf L j)
      have hw : wrs L (cellOf L j) = 2 := by omega
      have h3 := h2 (cellOf L j) (cell_lt L hL j) hw
      have pi := PL_lt hL ps i hi ki
      have pj := PL_lt hL ps j hj kj
      rw [hc, hw] at pi
      rw [hw] at pj
      apply Nat.lt_of_not_le
      intro hge
      have hne : PL L ps i ≠ PL L ps j := by
        intro e
        have := PL_inj hL ps hi hj ki kj hc e
        subst this
        omega
      have hi1 : PL L ps i + 1 = wrs L (cellOf L i) := by rw [hc, hw]; omega
      have h4 := end_cell hR h16 hlast (FR L ps) ps hi ki hi1
      rw [hc, h3] at h4
      omega
  · rintro ⟨h1, h2⟩
    refine ⟨fun i hi hk hlo => ?_, fun c hc hw => ?_⟩
    · rw [end_reg hL h16 hlast (FR L ps) (PL L ps) (choice_ok hL ps) hi hk]
      exact h1 i hi hk hlo
    · obtain ⟨i, j, hi, hj, ki, kj, ci, cj, vi, vj⟩ := two_writes L hL c hw
      have h3 := h2 i j hi hj ki kj (ci.trans cj.symm) vi vj
      have pj := PL_lt hL ps j hj kj
      rw [cj, hw] at pj
      have hj1 : PL L ps j + 1 = wrs L (cellOf L j) := by rw [cj, hw]; omega
      have h4 := end_cell hR h16 hlast (FR L ps) ps hj kj hj1
      rw [cj] at h4
      rw [h4, vj]

theorem rnd_holds {L : List Nat} (hR : Ring L) (fr pl : Nat → Nat) : rndB (eventsL L) fr pl = true ↔ ∀ i, i < L.length → Holds L fr pl i := by
  have hL := hR.toLay
  unfold rndB
  rw [List.all_eq_true, events_length]
  constructor
  · intro h i hi
    have h1 := h i (List.mem_range.2 hi)
    unfold hldB at h1
    rw [E_af hL hi, events_length] at h1
    simp only [Bool.and_eq_true, Bool.not_eq_true', Bool.and_eq_false_iff, bne_eq_false_iff_eq, decide_eq_false_iff_not] at h1
    obtain ⟨⟨a, b⟩, c⟩ := h1
    refine ⟨fun hr => ?_, fun hr => ?_, fun hr h0 => ?_⟩
    · rcases a with a | a
      · rw [hr] at a; cases a
      · exact a
    · rcases b with b | b
      · rw [hr] at b; cases b
      · unfold nxt; omega
    · rcases c with c | c | c
      · rw [hr] at c; cases c
      · omega
      · unfold nxt; omega
  · intro h i hi
    have hi' := List.mem_range.1 hi
    obtain ⟨a, b, c⟩ := h i hi'
    unfold hldB
    rw [E_af hL hi', events_length]
    simp only [Bool.and_eq_true, Bool.not_eq_true', Bool.and_eq_false_iff, bne_eq_false_iff_eq, decide_eq_false_iff_not]
    unfold nxt at a b c
    refine ⟨⟨?_, ?_⟩, ?_⟩
    · cases hr : isRf (L[i]?.getD 0)
      · exact Or.inl rfl
      · exact Or.inr (a hr)
    · cases hr : isCo (L[i]?.getD 0)
      · exact Or.inl rfl
      · have := b hr; exact Or.inr (by omega)
    · cases hr : isFr (L[i]?.getD 0)
      · exact Or.inl rfl
      · by_cases h0 : fr i = 0
        · exact Or.inr (Or.inl (by omega))
        · have := c hr (by omega)
          exact Or.inr (Or.inr (by omega))

/-- P7 -/
theorem exact_met {L : List Nat} (hR : Ring L) (h16 : L.length ≤ 16) (hlast : lT (L[L.length - 1]?.getD 0) = true) (ps : List Int) :
    metS (L.countP lT) (wantOf L) (endTo (eventsL L) (FR L ps) (PL L ps) (L.countP lT) L.length) = rndB (eventsL L) (FR L ps) (PL L ps) := by
  rw [Bool.eq_iff_iff, met_choice hR h16 hlast ps, rnd_holds hR, exact_core L hR _ _ (choice_ok hR.toLay ps)]
/-- two choices that meet the claims are one -/
theorem one_met {L : List Nat} (hR : Ring L) (h16 : L.length ≤ 16) (hlast : lT (L[L.length - 1]?.getD 0) = true) (ps qs : List Int)
    (h : metS (L.countP lT) (wantOf L) (endTo (eventsL L) (FR L ps) (PL L ps) (L.countP lT) L.length) = true) (h' : metS (L.countP lT) (wantOf L) (endTo (eventsL L) (FR L qs) (PL L qs) (L.countP lT) L.length) = true) :
    ∀ i, i < L.length → FR L ps i = FR L qs i ∧ PL L ps i = PL L qs i := by
  have hL := hR.toLay
  obtain ⟨a1, a2⟩ := (met_choice hR h16 hlast ps).1 h
  obtain ⟨b1, b2⟩ := (met_choice hR h16 hlast qs).1 h'
  intro i hi
  cases hk : kd L i
  · exact ⟨one_from L hR _ _ _ _ (choice_ok hL ps) (choice_ok hL qs) a1 b1 i hi hk, by rw [PL_read hL ps i hi hk, PL_read hL qs i hi hk]⟩
  · refine ⟨by rw [FR_write hL ps i hi hk, FR_write hL qs i hi hk], ?_⟩
    have p1 := PL_lt hL ps i hi hk
    have p2 := PL_lt hL qs i hi hk
    have hfew := hR.few (cellOf L i)
    by_cases hw : wrs L (cellOf L i) = 2
    · obtain ⟨x, y, hx, hy, kx, ky, cx, cy, vx, vy⟩ := two_writes L hL _ hw
      have c1 := a2 x y hx hy kx ky (cx.trans cy.symm) vx vy
      have c2 := b2 x y hx hy kx ky (cx.trans cy.symm) vx vy
      have y1 := PL_lt hL ps y hy ky
      have y2 := PL_lt hL qs y hy ky
      rw [cy, hw] at y1 y2
      have hvp := va_pos L hL hi hk
      have hvl := va_le L hL hi
      by_cases hv : vaOf L i = 1
      · have : i = x := va_inj L hL hi hx hk kx (cx.symm) (by omega)
        subst this
        omega
      · have : i = y := va_inj L hL hi hy hk ky (cy.symm) (by omega)
        subst this
        omega
    · omega
end

end Go.Proofs.YtokfiflflcfidaaDoor
