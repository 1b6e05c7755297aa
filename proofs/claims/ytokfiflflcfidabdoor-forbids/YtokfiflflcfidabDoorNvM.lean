import Derived.Test.YtokfiflflcfidabDoorMachP
import Derived.Test.YtokfiflflcfidabDoorCdM
namespace Go.Proofs.YtokfiflflcfidabDoor
open Go.RowKit

/-- how much is left to do for the threads below k -/
def muTo (code : List (List RIns)) (s : St) : Nat → Nat
  | 0 => 0
  | k + 1 => muTo code s k + (2 * ((code[k]?.getD []).length - (s.th k).pc) + (s.th k).buf.length)
def mu (code : List (List RIns)) (s : St) : Nat := muTo code s code.length

theorem mem_mvTo (code : List (List RIns)) (th : Nat → Th) (n : Nat) (mv : Nat × Bool) : mv ∈ mvTo code th n ↔ mv.1 < n ∧ ((mv.2 = false ∧ canS code th mv.1 = true) ∨ (mv.2 = true ∧ (th mv.1).buf.isEmpty = false)) := by
  induction n with
  | zero => simp [mvTo]
  | succ n ih =>
    obtain ⟨k, b⟩ := mv
    simp only [mvTo, List.mem_append, ih]
    constructor
    · rintro ((⟨h1, h2⟩ | h) | h)
      · exact ⟨by omega, h2⟩
      · split at h
        · rename_i hc
          simp only [List.mem_singleton, Prod.mk.injEq] at h
          obtain ⟨rfl, rfl⟩ := h
          exact ⟨by omega, Or.inl ⟨rfl, hc⟩⟩
        · cases h
      · split at h
        · cases h
        · rename_i hc
          simp only [List.mem_singleton, Prod.mk.injEq] at h
          obtain ⟨rfl, rfl⟩ := h
          exact ⟨by omega, Or.inr ⟨rfl, by simpa using hc⟩⟩
    · rintro ⟨h1, h2⟩
      by_cases hk : k = n
      · subst hk
        rcases h2 with ⟨h3, h4⟩ | ⟨h3, h4⟩
        · subst h3
          exact Or.inl (Or.inr (by rw [if_pos h4]; simp))
        · subst h3
          exact Or.inr (by rw [if_neg (by simp [h4])]; simp)
      · exact Or.inl (Or.inl ⟨by omega, h2⟩)
theorem mem_mvs (code : List (List RIns)) (th : Nat → Th) (mv : Nat × Bool) : mv ∈ mvs code th ↔ mv.1 < code.length ∧ ((mv.2 = false ∧ canS code th mv.1 = true) ∨ (mv.2 = true ∧ (th mv.1).buf.isEmpty = false)) := mem_mvTo code th _ mv

theorem muTo_congr (code : List (List RIns)) (s s' : St) (n : Nat) (h : ∀ k, k < n → s'.th k = s.th k) : muTo code s' n = muTo code s n := by
  induction n with
  | zero => rfl
  | succ n ih => rw [muTo, muTo, ih (fun k hk => h k (by omega)), h n (by omega)]
/-- a thread that has less left, the others as they were -/
theorem muTo_drop (code : List (List RIns)) (s s' : St) (k n : Nat) (hk : k < n) (h : ∀ j, j ≠ k → s'.th j = s.th j) (hd : 2 * ((code[k]?.getD []).length - (s'.th k).pc) + (s'.th k).buf.length + 1 ≤ 2 * ((code[k]?.getD []).length - (s.th k).pc) + (s.th k).buf.length) : muTo code s' n + 1 ≤ muTo code s n := by
  induction n with
  | zero => omega
  | succ n ih =>
    rw [muTo, muTo]
    by_cases hkn : k = n
    · subst hkn
      rw [muTo_congr code s s' k (fun j hj => h j (by omega))]
      omega
    · have := ih (by omega)
      rw [h n (by omega)]
      omega
theorem mu_move (code : List (List RIns)) (model : Nat) (_hm : model = 0 ∨ model = 1) (s : St) (mv : Nat × Bool) (h : mv ∈ mvs code s.th) : mu code (moveS code model s mv) + 1 ≤ mu code s := by
  obtain ⟨hk, h2⟩ := (mem_mvs code s.th mv).1 h
  obtain ⟨k, b⟩ := mv
  dsimp only at hk h2
  rcases h2 with ⟨rfl, hc⟩ | ⟨rfl, hb⟩
  · have hpc := canS_pc hc
    refine muTo_drop code s _ k _ hk (fun j hj => ?_) ?_
    · show updN s.th k _ j = _
      rw [updN_other _ _ hj]
    · show 2 * (_ - ((updN s.th k _) k).pc) + ((updN s.th k _) k).buf.length + 1 ≤ _
      rw [updN_same]
      unfold stpT
      dsimp only
      split
      · simp; omega
      · omega
  · obtain ⟨x, l, hl⟩ : ∃ x l, (s.th k).buf = x :: l := by
      cases hx : (s.th k).buf with
      | nil => simp [hx] at hb
      | cons x l => exact ⟨x, l, rfl⟩
    have hd : moveS code model s (k, true) = ⟨updN s.mem x.cell x.val, updN s.th k { s.th k with buf := l }⟩ := by
      show drainS k s = _
      unfold drainS
      rw [hl]
    rw [hd]
    refine muTo_drop code s _ k _ hk (fun j hj => ?_) ?_
    · show updN s.th k _ j = _
      rw [updN_other _ _ hj]
    · show 2 * (_ - ((updN s.th k _) k).pc) + ((updN s.th k _) k).buf.length + 1 ≤ _
      rw [updN_same, hl]
      simp
      omega
theorem mu_moveN (code : List (List RIns)) (model : Nat) (hm : model = 0 ∨ model = 1) (s : St) (n : Nat) (h : n < (mvs code s.th).length) : mu code (moveN code model s n) + 1 ≤ mu code s := by
  unfold moveN
  rw [List.getElem?_eq_getElem h]
  exact mu_move code model hm s _ (List.getElem_mem h)
theorem mu_run (code : List (List RIns)) (model : Nat) (hm : model = 0 ∨ model = 1) (l : List Int) (s : St) : mu code (runS code model l s) ≤ mu code s := by
  induction l generalizing s with
  | nil => exact Nat.le_refl _
  | cons c l ih =>
    rw [runS]
    split
    · exact Nat.le_refl _
    · rename_i h
      have h1 := ih (moveN code model s (pickN c (mvs code s.th).length))
      have h2 := mu_moveN code model hm s (pickN c (mvs code s.th).length) (pickN_lt _ (by omega))
      omega
theorem mu_settle (code : List (List RIns)) (model : Nat) (hm : model = 0 ∨ model = 1) (n : Nat) (s : St) : (mvs code (settle code model n s).th).length = 0 ∨ mu code (settle code model n s) + n ≤ mu code s := by
  induction n with
  | zero => exact Or.inr (Nat.le_refl _)
  | succ n ih =>
    rw [settle]
    split
    · rename_i h
      rcases ih with h0 | h1
      · omega
      · have := mu_moveN code model hm _ 0 h
        exact Or.inr (by omega)
    · rename_i h
      exact Or.inl (by omega)
theorem muTo_init (code : List (List RIns)) (hS : SndC code) (n : Nat) (hn : n ≤ code.length) : muTo code st0 n ≤ 64 * n := by
  induction n with
  | zero => exact Nat.le_refl _
  | succ n ih =>
    rw [muTo]
    have h1 := ih (by omega)
    have h2 := (hS.2.2 n (by omega)).2.1
    have h3 : (st0.th n).buf.length = 0 := rfl
    rw [h3]
    omega
/-- a play ends where no move is left -/
theorem play_done (code : List (List RIns)) (hS : SndC code) (model : Nat) (hm : model = 0 ∨ model = 1) (l : List Int) : (mvs code (playS code model l).th).length = 0 := by
  unfold playS
  rcases mu_settle code model hm 1024 (runS code model l st0) with h | h
  · exact h
  · have h1 := mu_run code model hm l st0
    have h2 := muTo_init code hS code.length (Nat.le_refl _)
    have h3 := hS.2.1
    have h4 : mu code st0 = muTo code st0 code.length := rfl
    by_cases h5 : 0 < (mvs code (settle code model 1024 (runS code model l st0)).th).length
    · have := mu_moveN code model hm _ 0 h5
      omega
    · omega
theorem play_end (code : List (List RIns)) (hS : SndC code) (model : Nat) (hm : model = 0 ∨ model = 1) (l : List Int) (k : Nat) (hk : k < code.length) : ((playS code model l).th k).buf = [] ∧ (code[k]?.getD []).length ≤ ((playS code model l).th k).pc := by
  have h := play_done code hS model hm l
  have hnil : mvs code (playS code model l).th = [] := List.eq_nil_of_length_eq_zero h
  have hb : ((playS code model l).th k).buf = [] := by
    cases hx : ((playS code model l).th k).buf with
    | nil => rfl
    | cons x t =>
      have := (mem_mvs code (playS code model l).th (k, true)).2 ⟨hk, Or.inr ⟨rfl, by simp [hx]⟩⟩
      rw [hnil] at this
      cases this
  refine ⟨hb, ?_⟩
  apply Nat.le_of_not_lt
  intro hlt
  have := (mem_mvs code (playS code model l).th (k, false)).2 ⟨hk, Or.inl ⟨rfl, by unfold canS; rw [hb]; simp [hlt]⟩⟩
  rw [hnil] at this
  cases this

/-- what every move keeps, a play keeps -/
theorem play_keeps (code : List (List RIns)) (model : Nat) (P : St → Prop) (h0 : P st0) (hs : ∀ s mv, P s → mv ∈ mvs code s.th → P (moveS code model s mv)) (l : List Int) : P (playS code model l) := by
  have hN : ∀ s n, P s → P (moveN code model s n) := by
    intro s n h
    unfold moveN
    cases hx : (mvs code s.th)[n]? with
    | none => exact h
    | some mv => exact hs s mv h (List.mem_of_getElem? hx)
  have hR : ∀ l s, P s → P (runS code model l s) := by
    intro l
    induction l with
    | nil => intro s h; exact h
    | cons c l ih =>
      intro s h
      rw [runS]
      split
      · exact h
      · exact ih _ (hN _ _ h)
  have hT : ∀ n s, P s → P (settle code model n s) := by
    intro n s h
    induction n with
    | zero => exact h
    | succ n ih =>
      rw [settle]
      split
      · exact hN _ _ ih
      · exact ih
  exact hT _ _ (hR _ _ h0)

theorem endS_reg (n : Nat) (s : St) {k r : Nat} (hk : k < n) (hr : r < 16) : (endS n s)[k * 16 + r]?.getD 0 = (s.th k).regs[r]?.getD 0 := by
  have hR : ∀ n, k < n → (regsTo s n)[k * 16 + r]?.getD 0 = (s.th k).regs[r]?.getD 0 := by
    intro n
    induction n with
    | zero => intro h; omega
    | succ n ih =>
      intro h
      rw [regsTo_succ]
      by_cases hkn : k = n
      · subst hkn
        rw [List.getElem?_append_right (by rw [regsTo_length]; omega), regsTo_length, show k * 16 + r - k * 16 = r from by omega]
        exact range16_at _ hr
      · rw [List.getElem?_append_left (by rw [regsTo_length]; omega)]
        exact ih (by omega)
  unfold endS
  rw [List.getElem?_append_left (by rw [regsTo_length]; omega)]
  exact hR n hk
theorem endS_mem (n : Nat) (s : St) {c : Nat} (hc : c < 16) : (endS n s)[n * 16 + c]?.getD 0 = s.mem c := by
  unfold endS
  rw [List.getElem?_append_right (by rw [regsTo_length]; omega), regsTo_length, show n * 16 + c - n * 16 = c from by omega]
  exact range16_at _ hc

end Go.Proofs.YtokfiflflcfidabDoor

namespace Go.Proofs.YtokfiflflcfidabDoor
open Go.RowKit

/-- the youngest write of cell c among the events that were made (the youngest first) -/
def lastW (L : List Nat) (c : Nat) : List Nat → Option Nat
  | [] => none
  | i :: l => if kd L i = true ∧ cellOf L i = c then some i else lastW L c l
def lastV (L : List Nat) (c : Nat) (l : List Nat) : Nat := match lastW L c l with | none => 0 | some i => vaOf L i
/-- when event j was made -/
def rnk (j : Nat) : List Nat → Nat
  | [] => 0
  | i :: l => if i = j then l.length + 1 else rnk j l

theorem rnk_le (j : Nat) (l : List Nat) : rnk j l ≤ l.length := by
  induction l with
  | nil => exact Nat.le_refl _
  | cons i l ih => rw [rnk]; split <;> simp <;> omega
theorem rnk_in {j : Nat} {a b : List Nat} (hj : j ∉ a) : rnk j (a ++ b) = rnk j b := by
  induction a with
  | nil => rfl
  | cons i a ih =>
    rw [List.cons_append, rnk, if_neg (fun e : i = j => hj (by rw [← e]; exact List.mem_cons_self)), ih (fun h => hj (List.mem_cons_of_mem _ h))]
theorem rnk_pos {j : Nat} {l : List Nat} (h : j ∈ l) : 0 < rnk j l := by
  induction l with
  | nil => cases h
  | cons i l ih =>
    rw [rnk]
    by_cases hij : i = j
    · rw [if_pos hij]; omega
    · rw [if_neg hij]
      rcases List.mem_cons.1 h with h | h
      · exact absurd h.symm hij
      · exact ih h
/-- what was made earlier has a lower number -/
theorem rnk_lt {tr a b : List Nat} {i j : Nat} (ht : tr = a ++ j :: b) (hnd : tr.Nodup) (hi : i ∈ b) : rnk i tr < rnk j tr := by
  subst ht
  rw [List.nodup_append] at hnd
  have hja : j ∉ a := fun h => hnd.2.2 j h j (List.mem_cons_self) rfl
  have hia : i ∉ a := fun h => hnd.2.2 i h i (List.mem_cons_of_mem _ hi) rfl
  have hij : j ≠ i := by
    intro e
    subst e
    exact (List.nodup_cons.1 hnd.2.1).1 hi
  have e1 : rnk j (j :: b) = b.length + 1 := by rw [rnk, if_pos rfl]
  have e2 : rnk i (j :: b) = rnk i b := by rw [rnk, if_neg hij]
  rw [rnk_in hja, rnk_in hia, e1, e2]
  have := rnk_le i b
  omega
theorem rnk_inj {l : List Nat} (hnd : l.Nodup) {i j : Nat} (hi : i ∈ l) (hj : j ∈ l) (h : rnk i l = rnk j l) : i = j := by
  obtain ⟨a, b, rfl⟩ := List.append_of_mem hj
  have hnd' := hnd
  rw [List.nodup_append] at hnd
  have hja : j ∉ a := fun h => hnd.2.2 j h j (List.mem_cons_self) rfl
  rcases List.mem_append.1 hi with h1 | h1
  · obtain ⟨a1, a2, rfl⟩ := List.append_of_mem h1
    have := rnk_lt (tr := a1 ++ i :: (a2 ++ j :: b)) (a := a1) (b := a2 ++ j :: b) (j := i) (i := j) rfl (by simpa using hnd') (by simp)
    simp only [List.append_assoc, List.cons_append] at h
    omega
  · rcases List.mem_cons.1 h1 with h2 | h2
    · exact h2
    · have := rnk_lt (i := i) (j := j) rfl hnd' h2
      omega

theorem lastW_some {L : List Nat} {c k : Nat} {l : List Nat} (h : lastW L c l = some k) : k ∈ l ∧ kd L k = true ∧ cellOf L k = c ∧ ∀ i ∈ l, kd L i = true → cellOf L i = c → rnk i l ≤ rnk k l := by
  induction l with
  | nil => cases h
  | cons x l ih =>
    rw [lastW] at h
    by_cases hx : kd L x = true ∧ cellOf L x = c
    · rw [if_pos hx] at h
      obtain rfl := Option.some.inj h
      refine ⟨List.mem_cons_self, hx.1, hx.2, fun i _ _ _ => ?_⟩
      conv => rhs; rw [rnk, if_pos rfl]
      exact rnk_le _ _
    · rw [if_neg hx] at h
      obtain ⟨h1, h2, h3, h4⟩ := ih h
      refine ⟨List.mem_cons_of_mem _ h1, h2, h3, fun i hi hki hci => ?_⟩
      have hxi : x ≠ i := fun e => hx (e ▸ ⟨hki, hci⟩)
      have hxk : x ≠ k := fun e => hx (e ▸ ⟨h2, h3⟩)
      rw [rnk, if_neg hxi, rnk, if_neg hxk]
      rcases List.mem_cons.1 hi with h5 | h5
      · exact absurd h5.symm hxi
      · exact h4 i h5 hki hci
theorem lastW_none {L : List Nat} {c : Nat} {l : List Nat} (h : lastW L c l = none) : ∀ i ∈ l, kd L i = true → cellOf L i ≠ c := by
  induction l with
  | nil => intro i hi; cases hi
  | cons x l ih =>
    rw [lastW] at h
    split at h
    · cases h
    · rename_i hx
      intro i hi hk hc
      rcases List.mem_cons.1 hi with h5 | h5
      · subst h5; exact hx ⟨hk, hc⟩
      · exact ih h i h5 hk hc

/-- the machine that writes at once, behind the events tr (the youngest first) -/
structure NInv (L : List Nat) (s : St) (tr : List Nat) : Prop where
  nd : tr.Nodup
  dn : ∀ i, i ∈ tr ↔ i < L.length ∧ posn L i < (s.th (thrOf L i)).pc
  bf : ∀ k, (s.th k).buf = []
  rl : ∀ k, (s.th k).regs.length = 16
  me : ∀ c, s.mem c = lastV L c tr
  hi : ∀ a j b, tr = a ++ j :: b → (∀ i, i < j → thrOf L i = thrOf L j → i ∈ b) ∧ (kd L j = false → (s.th (thrOf L j)).regs[regOf L j]?.getD 0 = lastV L (cellOf L j) b)

theorem NInv.init (L : List Nat) : NInv L st0 [] where
  nd := List.nodup_nil
  dn := fun i => ⟨fun h => absurd h List.not_mem_nil, fun h => absurd h.2 (Nat.not_lt_zero _)⟩
  bf := fun _ => rfl
  rl := fun _ => by simp [st0]
  me := fun _ => rfl
  hi := fun a j b h => by simp at h

theorem ldTo_nil (c : Nat) (mem : Nat → Nat) (th : Nat → Th) (k : Nat) (h : (th k).buf = []) : loadS mem th k c = mem c := by
  unfold loadS; rw [h]; rfl

theorem NInv.step {L : List Nat} (h16 : L.length ≤ 16) {s : St} {tr : List Nat} (h : NInv L s tr) {k : Nat} (hk : k < L.countP lT) (hpc : (s.th k).pc < (cdTo L k L.length).length) :
    ∃ tr', NInv L (stepS (codeOf L) 0 k s) tr' := by
  have hx : insOf (codeOf L) k (s.th k).pc = (cdTo L k L.length)[(s.th k).pc]?.getD rins0 := by unfold insOf; rw [codeOf_at L hk]
  have hth : ∀ j, j ≠ k → (stepS (codeOf L) 0 k s).th j = s.th j := fun j hj => updN_other _ _ hj
  have hthk : (stepS (codeOf L) 0 k s).th k = stpT (insOf (codeOf L) k (s.th k).pc) 0 s.mem s.th k := updN_same _ _ _
  have hmem : (stepS (codeOf L) 0 k s).mem = stpM (insOf (codeOf L) k (s.th k).pc) 0 s.mem := rfl
  rw [hx] at hthk hmem
  have hpck : ((stepS (codeOf L) 0 k s).th k).pc = (s.th k).pc + 1 := by rw [hthk]; rfl
  have hbf : ∀ j, ((stepS (codeOf L) 0 k s).th j).buf = [] := by
    intro j
    by_cases hj : j = k
    · subst hj; rw [hthk]; unfold stpT; dsimp only; rw [if_neg (by omega)]; exact h.bf j
    · rw [hth j hj]; exact h.bf j
  have hrl : ∀ j, ((stepS (codeOf L) 0 k s).th j).regs.length = 16 := by
    intro j
    by_cases hj : j = k
    · subst hj; rw [hthk]; unfold stpT; dsimp only; split
      · simp; exact h.rl j
      · exact h.rl j
    · rw [hth j hj]; exact h.rl j
  rcases code_at L k L.length (s.th k).pc hpc with ⟨hf, hno⟩ | ⟨i, hi, hti, hpi, hins⟩
  · rw [hf] at hthk hmem
    refine ⟨tr, h.nd, fun j => ?_, hbf, hrl, ?_, fun a j b hab => ⟨(h.hi a j b hab).1, fun hkj => ?_⟩⟩
    · rw [h.dn j]
      by_cases hj : thrOf L j = k
      · rw [hj, hpck]
        constructor
        · rintro ⟨h1, h2⟩; exact ⟨h1, by omega⟩
        · rintro ⟨h1, h2⟩
          have := hno j h1 hj
          exact ⟨h1, by omega⟩
      · rw [hth _ hj]
    · intro c
      rw [hmem]
      exact h.me c
    · rw [← (h.hi a j b hab).2 hkj]
      by_cases hj : thrOf L j = k
      · rw [hj, hthk]; rfl
      · rw [hth _ hj]
  · rw [hins] at hthk hmem
    have hnot : i ∉ tr := by
      intro hm
      have := ((h.dn i).1 hm).2
      rw [hti] at this
      omega
    refine ⟨i :: tr, List.nodup_cons.2 ⟨hnot, h.nd⟩, fun j => ?_, hbf, hrl, ?_, fun a j b hab => ?_⟩
    · rw [List.mem_cons, h.dn j]
      by_cases hj : thrOf L j = k
      · rw [hj, hpck]
        constructor
        · rintro (h1 | ⟨h1, h2⟩)
          · subst h1; exact ⟨hi, by omega⟩
          · exact ⟨h1, by omega⟩
        · rintro ⟨h1, h2⟩
          by_cases hji : posn L j = posn L i
          · exact Or.inl (posn_inj L (hj.trans hti.symm) hji)
          · exact Or.inr ⟨h1, by omega⟩
      · rw [hth _ hj]
        constructor
        · rintro (h1 | h1)
          · subst h1; exact absurd hti hj
          · exact h1
        · exact Or.inr
    · intro c
      rw [hmem]
      unfold stpM insE
      cases hki : kd L i
      · rw [if_neg (by simp)]
        rw [h.me c]
        unfold lastV
        rw [lastW, if_neg (by simp [hki])]
      · rw [if_pos ⟨by simp, rfl⟩]
        simp only [if_true]
        unfold lastV
        rw [lastW]
        by_cases hc : cellOf L i = c
        · rw [if_pos ⟨hki, hc⟩, ← hc, updN_same]
        · rw [if_neg (fun e => hc e.2), updN_other _ _ (fun e => hc e.symm)]
          exact h.me c
    · cases a with
      | nil =>
        simp only [List.nil_append, List.cons.injEq] at hab
        obtain ⟨rfl, rfl⟩ := hab
        refine ⟨fun j hj htj => ?_, fun hki => ?_⟩
        · rw [h.dn j]
          have := posn_lt L hj htj
          refine ⟨by omega, ?_⟩
          rw [htj, hti]
          omega
        · have hie : insE L i = ⟨2, regOf L i, cellOf L i, 0⟩ := by simp [insE, hki]
          rw [hti, hthk, hie]
          unfold stpT
          have hr : regOf L i < (s.th k).regs.length := by have := reg_le L i; rw [h.rl k]; omega
          simp [hr]
          rw [ldTo_nil _ _ _ _ (h.bf k)]
          exact h.me _
      | cons x a =>
        simp only [List.cons_append, List.cons.injEq] at hab
        obtain ⟨rfl, hab⟩ := hab
        have hold := h.hi a j b hab
        refine ⟨hold.1, fun hkj => ?_⟩
        rw [← hold.2 hkj]
        by_cases hj : thrOf L j = k
        · rw [hj, hthk]
          unfold stpT
          dsimp only
          split
          · rename_i hop
            have hki : kd L i = false := by
              cases hki : kd L i
              · rfl
              · simp [insE, hki] at hop
            have hjt : j ∈ tr := by rw [hab]; simp
            have hji : j < i := by
              have h1 := ((h.dn j).1 hjt).2
              rw [hj] at h1
              rcases Nat.lt_trichotomy j i with h2 | h2 | h2
              · exact h2
              · subst h2; exact absurd hjt hnot
              · have := posn_lt L h2 (hti.trans hj.symm); omega
            have hrr := reg_lt L hji (hj.trans hti.symm) hkj
            have : (insE L i).reg = regOf L i := by simp [insE, hki]
            rw [this, List.getElem?_set_ne (by omega)]
          · rfl
        · rw [hth _ hj]

theorem NInv.play (L : List Nat) (h16 : L.length ≤ 16) (l : List Int) : ∃ tr, NInv L (playS (codeOf L) 0 l) tr := by
  refine play_keeps (codeOf L) 0 (fun s => ∃ tr, NInv L s tr) ⟨[], NInv.init L⟩ ?_ l
  rintro s ⟨k, b⟩ ⟨tr, h⟩ hm
  obtain ⟨hk, h2⟩ := (mem_mvs _ _ _).1 hm
  rw [codeOf_length] at hk
  dsimp only at hk h2
  rcases h2 with ⟨rfl, hc⟩ | ⟨rfl, hb⟩
  · have := canS_pc hc
    rw [codeOf_at L hk] at this
    exact h.step h16 hk this
  · rw [h.bf k] at hb
    cases hb

/-- no cycle is gone round on the machine that writes at once -/
theorem never_core (L : List Nat) (hR : Ring L) (h16 : L.length ≤ 16) (hlT : lT (L[L.length - 1]?.getD 0) = true) (hC16 : L.countP lC ≤ 16) (hS : SndC (codeOf L)) (l : List Int) :
    metS (L.countP lT) (wantOf L) (endS (L.countP lT) (playS (codeOf L) 0 l)) = false := by
  cases hmet : metS (L.countP lT) (wantOf L) (endS (L.countP lT) (playS (codeOf L) 0 l))
  · rfl
  · exfalso
    have hL := hR.toLay
    obtain ⟨tr, hI⟩ := NInv.play L h16 l
    obtain ⟨hreads, hcells⟩ := (met_iff L _ _).1 hmet
    have hthr : ∀ i, i < L.length → thrOf L i < L.countP lT := fun i hi => thr_lt L hL.pos hlT hi
    have hall : ∀ i, i < L.length → i ∈ tr := by
      intro i hi
      have ht := hthr i hi
      have := (play_end (codeOf L) hS 0 (Or.inl rfl) l (thrOf L i) (by rw [codeOf_length]; exact ht)).2
      rw [codeOf_at L ht] at this
      have hp := posn_in L hi
      exact (hI.dn i).2 ⟨hi, by omega⟩
    have hread : ∀ i, i < L.length → kd L i = false → lone L i = false → ∃ a b, tr = a ++ i :: b ∧ lastV L (cellOf L i) b = vaOf L i := by
      intro i hi hk hl
      obtain ⟨a, b, hab⟩ := List.append_of_mem (hall i hi)
      have h1 := (hI.hi a i b hab).2 hk
      have h2 := hreads i hi hk hl
      rw [endS_reg _ _ (hthr i hi) (by have := reg_le L i; omega), h1] at h2
      exact ⟨a, b, hab, h2⟩
    have hcell : ∀ c, c < L.countP lC → wrs L c = 2 → lastV L c tr = 2 := by
      intro c hc hw
      have := hcells c hc hw
      rw [endS_mem _ _ (by omega), hI.me c] at this
      exact this
    -- the second write of a cell was made last
    have hsecond : ∀ i j, i < L.length → j < L.length → kd L i = true → kd L j = true → cellOf L i = cellOf L j → vaOf L j = 2 → rnk i tr ≤ rnk j tr := by
      intro i j hi hj hki hkj hc hv
      have hle := va_le L hL hj
      have hfew := hR.few (cellOf L j)
      have h2 := hcell (cellOf L j) (cell_lt L hL j) (by omega)
      unfold lastV at h2
      cases hw : lastW L (cellOf L j) tr with
      | none => rw [hw] at h2; cases h2
      | some k =>
        rw [hw] at h2
        dsimp only at h2
        obtain ⟨h3, h4, h5, h6⟩ := lastW_some hw
        have hkl := ((hI.dn k).1 h3).1
        have := va_inj L hL hkl hj h4 hkj h5 (h2.trans hv.symm)
        subst this
        exact h6 i (hall i hi) hki hc
    have hfwd : ∀ i, i < L.length → rnk i tr < rnk (nxt L i) tr := by
      intro i hi
      have hjl := nxt_lt L hL i
      have he := getD_lt hR.small i
      have hjo := hR.joins i hi
      by_cases hin : lT (L[i]?.getD 0) = false
      · -- in the same thread
        have hne : i + 1 ≠ L.length := by
          intro e
          rw [← e, show i + 1 - 1 = i from by omega, hin] at hlT
          cases hlT
        have hnx : nxt L i = i + 1 := Nat.mod_eq_of_lt (by omega)
        have hts : thrOf L (i + 1) = thrOf L i := by
          have := thr_succ L i hi
          rw [hin] at this
          simpa [b1] using this
        obtain ⟨a, b, hab⟩ := List.append_of_mem (hall (nxt L i) hjl)
        have h1 := (hI.hi a _ b hab).1 i (by omega) (by rw [hnx, hts])
        exact rnk_lt hab hI.nd h1
      · have hin : lT (L[i]?.getD 0) = true := by simpa using hin
        have hm : lC (L[i]?.getD 0) = false := by
          rcases cases14 he with h | h | h | h | h | h | h | h | h | h | h | h | h | h <;> rw [h] at hin ⊢ <;> revert hin <;> decide
        have hva := va_nxt L hL hi hm
        have hce : cellOf L (nxt L i) = cellOf L i := cell_next L hL hi hm
        have hpn := prv_nxt L hL hi
        have hlej := va_le L hL hjl
        have hfew := hR.few (cellOf L (nxt L i))
        have hne : i ≠ nxt L i := by
          intro e
          rcases edge_kinds he hm with ⟨_, _, _, d, e'⟩ | ⟨_, _, _, d, e'⟩ | ⟨_, _, _, d, e'⟩
          · rw [e', ← e] at hjo; unfold kd at hjo; rw [d] at hjo; cases hjo
          · rw [hjo, e', show b1 true = 1 from rfl, ← e] at hva; omega
          · rw [e', ← e] at hjo; unfold kd at hjo; rw [d] at hjo; cases hjo
        rcases edge_kinds he hm with ⟨_, _, _, d, e⟩ | ⟨_, _, _, d, e⟩ | ⟨_, _, _, d, e⟩
        · -- Rf
          rw [e] at hjo
          have hki : kd L i = true := d
          rw [hjo, show b1 false = 0 from rfl, Nat.add_zero] at hva
          obtain ⟨a, b, hab, hlv⟩ := hread (nxt L i) hjl hjo (by unfold lone; rw [hpn, hm]; rfl)
          have hpos := va_pos L hL hi hki
          unfold lastV at hlv
          cases hw : lastW L (cellOf L (nxt L i)) b with
          | none => rw [hw] at hlv; dsimp only at hlv; omega
          | some k =>
            rw [hw] at hlv
            dsimp only at hlv
            obtain ⟨h3, h4, h5, h6⟩ := lastW_some hw
            have hkt : k ∈ tr := by rw [hab]; simp [h3]
            have hkl := ((hI.dn k).1 hkt).1
            have := va_inj L hL hkl hi h4 hki (h5.trans hce) (hlv.trans hva)
            subst this
            exact rnk_lt hab hI.nd h3
        · -- Co
          rw [e] at hjo
          have hki : kd L i = true := d
          rw [hjo, show b1 true = 1 from rfl] at hva
          have hpos := va_pos L hL hi hki
          have h1 := hsecond i (nxt L i) hi hjl hki hjo hce.symm (by omega)
          rcases Nat.lt_or_eq_of_le h1 with h2 | h2
          · exact h2
          · exact absurd (rnk_inj hI.nd (hall i hi) (hall _ hjl) h2) hne
        · -- Fr
          rw [e] at hjo
          have hki : kd L i = false := d
          rw [hjo, show b1 true = 1 from rfl] at hva
          obtain ⟨a, b, hab, hlv⟩ := hread i hi hki (by unfold lone; rw [hm, Bool.and_false])
          apply Nat.lt_of_not_le
          intro hge
          have hlt : rnk (nxt L i) tr < rnk i tr := by
            rcases Nat.lt_or_eq_of_le hge with h2 | h2
            · exact h2
            · exact absurd (rnk_inj hI.nd (hall i hi) (hall _ hjl) h2.symm) hne
          have hjb : nxt L i ∈ b := by
            have hm' := hall (nxt L i) hjl
            rw [hab] at hm'
            rcases List.mem_append.1 hm' with h1 | h1
            · exfalso
              obtain ⟨a1, a2, ha⟩ := List.append_of_mem h1
              have := rnk_lt (tr := tr) (a := a1) (b := a2 ++ i :: b) (j := nxt L i) (i := i) (by rw [hab, ha]; simp) hI.nd (by simp)
              omega
            · rcases List.mem_cons.1 h1 with h2 | h2
              · exact absurd h2.symm hne
              · exact h2
          unfold lastV at hlv
          cases hw : lastW L (cellOf L i) b with
          | none => exact lastW_none hw _ hjb hjo hce
          | some k =>
            rw [hw] at hlv
            dsimp only at hlv
            obtain ⟨h3, h4, h5, h6⟩ := lastW_some hw
            have hkt : k ∈ tr := by rw [hab]; simp [h3]
            have hkl := ((hI.dn k).1 hkt).1
            have hpos := va_pos L hL hkl h4
            have h7 := hsecond k (nxt L i) hkl hjl h4 hjo (h5.trans hce.symm) (by omega)
            have h8 := h6 (nxt L i) hjb hjo hce
            have hnd2 := hI.nd
            rw [hab, List.nodup_append] at hnd2
            have hoff : ∀ x, x ∈ b → x ∉ a ++ [i] := by
              intro x hx h
              rcases List.mem_append.1 h with h | h
              · exact hnd2.2.2 x h x (List.mem_cons_of_mem _ hx) rfl
              · rw [List.mem_singleton] at h
                subst h
                exact (List.nodup_cons.1 hnd2.2.1).1 hx
            have e1 : tr = (a ++ [i]) ++ b := by rw [hab]; simp
            rw [e1, rnk_in (hoff k h3), rnk_in (hoff _ hjb)] at h7
            have : k = nxt L i := rnk_inj (List.nodup_cons.1 hnd2.2.1).2 h3 hjb (by omega)
            rw [this] at hlv
            omega
    -- round the cycle
    have hup : ∀ i, i < L.length → rnk 0 tr + i ≤ rnk i tr := by
      intro i
      induction i with
      | zero => intro _; omega
      | succ i ih =>
        intro hi
        have h1 := ih (by omega)
        have h2 := hfwd i (by omega)
        rw [show nxt L i = i + 1 from Nat.mod_eq_of_lt hi] at h2
        omega
    have hp := hL.pos
    have h1 := hup (L.length - 1) (by omega)
    have h2 := hfwd (L.length - 1) (by omega)
    rw [show nxt L (L.length - 1) = 0 from by unfold nxt; rw [show L.length - 1 + 1 = L.length from by omega, Nat.mod_self]] at h2
    omega

end Go.Proofs.YtokfiflflcfidabDoor
