import Derived.Test.YtokfiflflcfidabPgM
import Derived.Test.YtokfiflflcfidabQfR
import Derived.Test.YtokfiflflcfidabPMZ
namespace Go.Proofs.Ytokfiflflcfidab
open Go.RowKit

/-- between two threads' instructions -/
def GoodS (n : Nat) (th : Nat → Th) : Prop := ∀ k, k < n → (th k).buf = [] ∧ ((th k).pc = 0 ∨ (th k).pc = 1)
/-- the threads below k that have not moved -/
def cntU (th : Nat → Th) : Nat → Nat
  | 0 => 0
  | k + 1 => cntU th k + if (th k).pc = 0 then 1 else 0
/-- every thread has one instruction -/
def OneC (c : List (List RIns)) : Prop := ∀ k, k < c.length → (c[k]?.getD []).length = 1

theorem canS_one {c : List (List RIns)} {th : Nat → Th} {k : Nat} (h1 : (c[k]?.getD []).length = 1) (hb : (th k).buf = []) (hp : (th k).pc = 0 ∨ (th k).pc = 1) : canS c th k = decide ((th k).pc = 0) := by
  unfold canS
  rw [h1, hb]
  rcases hp with h | h <;> rw [h] <;> simp
theorem mvTo_cnt {c : List (List RIns)} (h1 : OneC c) {th : Nat → Th} {k : Nat} (hk : k ≤ c.length) (hg : GoodS k th) : (mvTo c th k).length = cntU th k := by
  induction k with
  | zero => rfl
  | succ k ih =>
    obtain ⟨hb, hp⟩ := hg k (by omega)
    rw [mvTo, cntU, canS_one (h1 k (by omega)) hb hp, hb, List.length_append, List.length_append, ih (by omega) (fun j hj => hg j (by omega))]
    rcases hp with h | h <;> rw [h] <;> simp
theorem mv_step {c : List (List RIns)} (h1 : OneC c) {th : Nat → Th} {k : Nat} (hk : k < c.length) (hg : GoodS c.length th) (hp : (th k).pc = 0) : (mvs c th)[cntU th k]? = some (k, false) := by
  refine mvs_at c th (k := k + 1) (by omega) ?_
  have hl := mvTo_cnt h1 (Nat.le_of_lt hk) (fun j hj => hg j (by omega))
  obtain ⟨hb, hp2⟩ := hg k hk
  rw [mvTo, canS_one (h1 k hk) hb hp2, hp, hb, ← hl]
  simp
theorem mv_drain {c : List (List RIns)} (h1 : OneC c) {th : Nat → Th} {k : Nat} (hk : k < c.length) (hg : GoodS k th) (hp : (th k).pc = 1) {x : RIns} (hb : (th k).buf = [x]) : (mvs c th)[cntU th k]? = some (k, true) := by
  refine mvs_at c th (k := k + 1) (by omega) ?_
  have hl := mvTo_cnt h1 (Nat.le_of_lt hk) hg
  have hc : canS c th k = false := by
    unfold canS
    rw [h1 k hk, hp]
    simp
  rw [mvTo, hc, hb, ← hl]
  simp
theorem cntU_congr {th th' : Nat → Th} {k : Nat} (h : ∀ j, j < k → (th' j).pc = (th j).pc) : cntU th' k = cntU th k := by
  induction k with
  | zero => rfl
  | succ k ih => rw [cntU, cntU, ih (fun j hj => h j (by omega)), h k (by omega)]
theorem cntU_move {th th' : Nat → Th} {k n : Nat} (hk : k < n) (h : ∀ j, j ≠ k → (th' j).pc = (th j).pc) (h0 : (th k).pc = 0) (h1 : (th' k).pc = 1) : cntU th' n + 1 = cntU th n := by
  induction n with
  | zero => omega
  | succ n ih =>
    rw [cntU, cntU]
    by_cases hkn : k = n
    · subst hkn
      rw [cntU_congr (fun j hj => h j (by omega)), h0, h1]
      simp
    · have := ih (by omega)
      rw [h n (fun e => hkn e.symm)]
      omega
theorem cntU_le (th : Nat → Th) (n : Nat) : cntU th n ≤ n := by
  induction n with
  | zero => exact Nat.le_refl _
  | succ n ih => rw [cntU]; split <;> omega
theorem cntU_pos {th : Nat → Th} {n : Nat} (h : 0 < cntU th n) : ∃ k, k < n ∧ (th k).pc = 0 ∧ cntU th k = 0 := by
  induction n with
  | zero => simp [cntU] at h
  | succ n ih =>
    by_cases hn : 0 < cntU th n
    · obtain ⟨k, a, b, c⟩ := ih hn
      exact ⟨k, by omega, b, c⟩
    · rw [cntU] at h
      split at h
      · rename_i hp
        exact ⟨n, by omega, hp, by omega⟩
      · omega

/-- thread k's one instruction -/
def execS (c : List (List RIns)) (k : Nat) (s : St) : St := stepS c 0 k s
theorem exec_th (c : List (List RIns)) (k : Nat) (s : St) : (∀ j, j ≠ k → (execS c k s).th j = s.th j) ∧ ((execS c k s).th k).pc = (s.th k).pc + 1 ∧ ((execS c k s).th k).buf = (s.th k).buf := by
  refine ⟨fun j hj => updN_other _ _ hj, ?_, ?_⟩
  · show (updN s.th k _ k).pc = _
    rw [updN_same]
    rfl
  · show (updN s.th k _ k).buf = _
    rw [updN_same]
    simp [stpT]
theorem exec_good {c : List (List RIns)} {k n : Nat} {s : St} (hg : GoodS n s.th) (hk : k < n) (hp : (s.th k).pc = 0) : GoodS n (execS c k s).th := by
  obtain ⟨h1, h2, h3⟩ := exec_th c k s
  intro j hj
  by_cases hjk : j = k
  · subst hjk
    exact ⟨by rw [h3]; exact (hg j hk).1, Or.inr (by rw [h2, hp])⟩
  · rw [h1 j hjk]; exact hg j hj
theorem exec_cnt {c : List (List RIns)} {k n : Nat} {s : St} (hk : k < n) (hp : (s.th k).pc = 0) : cntU (execS c k s).th n + 1 = cntU s.th n := by
  obtain ⟨h1, h2, h3⟩ := exec_th c k s
  exact cntU_move hk (fun j hj => by rw [h1 j hj]) hp (by rw [h2, hp])
theorem move0 {c : List (List RIns)} (h1 : OneC c) {s : St} (hg : GoodS c.length s.th) {k : Nat} (hk : k < c.length) (hp : (s.th k).pc = 0) : moveN c 0 s (cntU s.th k) = execS c k s := by
  unfold moveN
  rw [mv_step h1 hk hg hp]
  rfl
/-- the machine with buffers: its step -/
theorem move1 {c : List (List RIns)} (h1 : OneC c) {s : St} (hg : GoodS c.length s.th) {k : Nat} (hk : k < c.length) (hp : (s.th k).pc = 0) : moveN c 1 s (cntU s.th k) = stepS c 1 k s := by
  unfold moveN
  rw [mv_step h1 hk hg hp]
  rfl
theorem step1_other {c : List (List RIns)} {s : St} {k : Nat} (ho : (insOf c k (s.th k).pc).op ≠ 1) : stepS c 1 k s = execS c k s := by
  unfold execS stepS stpM stpT
  simp [ho]
theorem step1_store {c : List (List RIns)} (h1 : OneC c) {s : St} (hg : GoodS c.length s.th) {k : Nat} (hk : k < c.length) (hp : (s.th k).pc = 0) (ho : (insOf c k (s.th k).pc).op = 1) :
    (mvs c (stepS c 1 k s).th)[cntU s.th k]? = some (k, true) ∧ moveN c 1 (stepS c 1 k s) (cntU s.th k) = execS c k s := by
  have hb := (hg k hk).1
  have hth : (stepS c 1 k s).th k = ⟨1, (s.th k).regs, [insOf c k (s.th k).pc]⟩ := by
    show updN s.th k _ k = _
    rw [updN_same]
    rw [hp] at ho ⊢
    simp [stpT, ho, hp, hb]
  have hoth : ∀ j, j ≠ k → (stepS c 1 k s).th j = s.th j := fun j hj => updN_other _ _ hj
  have hcnt : cntU (stepS c 1 k s).th k = cntU s.th k := cntU_congr fun j hj => by rw [hoth j (by omega)]
  have hmv := mv_drain h1 (th := (stepS c 1 k s).th) hk (fun j hj => by rw [hoth j (by omega)]; exact hg j (by omega)) (by rw [hth]) (x := insOf c k (s.th k).pc) (by rw [hth])
  rw [hcnt] at hmv
  refine ⟨hmv, ?_⟩
  unfold moveN
  rw [hmv]
  show drainS k (stepS c 1 k s) = _
  unfold drainS
  rw [hth]
  show (⟨updN (stepS c 1 k s).mem (insOf c k (s.th k).pc).cell (insOf c k (s.th k).pc).val, updN (stepS c 1 k s).th k ⟨1, (s.th k).regs, []⟩⟩ : St) = _
  have hm : (stepS c 1 k s).mem = s.mem := by simp [stepS, stpM]
  have ht : updN (stepS c 1 k s).th k ⟨1, (s.th k).regs, []⟩ = updN s.th k ⟨1, (s.th k).regs, []⟩ := updN_twice _ _ _ _
  rw [hm, ht]
  unfold execS stepS stpM stpT
  rw [hp] at ho ⊢
  simp [ho, hb]

theorem pickN_nat {n len : Nat} (h : n < len) : pickN (n : Int) len = n := by
  unfold pickN
  rw [if_neg (by omega)]
  rw [Int.emod_eq_of_lt (by omega) (by omega)]
  simp
theorem lt_of_get {α : Type} {l : List α} {i : Nat} {x : α} (h : l[i]? = some x) : i < l.length := (List.getElem?_eq_some_iff.1 h).1
theorem run0 {c : List (List RIns)} (h1 : OneC c) {s : St} (hg : GoodS c.length s.th) {k : Nat} (hk : k < c.length) (hp : (s.th k).pc = 0) : runS c 0 [((cntU s.th k : Nat) : Int)] s = execS c k s := by
  have hl := lt_of_get (mv_step h1 hk hg hp)
  rw [runS, if_neg (by omega), runS, pickN_nat hl, move0 h1 hg hk hp]
theorem run1 {c : List (List RIns)} (h1 : OneC c) {s : St} (hg : GoodS c.length s.th) {k : Nat} (hk : k < c.length) (hp : (s.th k).pc = 0) :
    runS c 1 ([((cntU s.th k : Nat) : Int)] ++ if (insOf c k (s.th k).pc).op = 1 then [((cntU s.th k : Nat) : Int)] else []) s = execS c k s := by
  have hl := lt_of_get (mv_step h1 hk hg hp)
  rw [runS_appendP]
  have e1 : runS c 1 [((cntU s.th k : Nat) : Int)] s = stepS c 1 k s := by rw [runS, if_neg (by omega), runS, pickN_nat hl, move1 h1 hg hk hp]
  rw [e1]
  by_cases ho : (insOf c k (s.th k).pc).op = 1
  · rw [if_pos ho]
    obtain ⟨hm, hs⟩ := step1_store h1 hg hk hp ho
    have hl2 := lt_of_get hm
    rw [runS, if_neg (by omega), runS, pickN_nat hl2, hs]
  · rw [if_neg ho, runS]
    exact step1_other ho

theorem settle_add (c : List (List RIns)) (m a b : Nat) (s : St) : settle c m (a + b) s = settle c m b (settle c m a s) := by
  induction b with
  | zero => rfl
  | succ b ih => rw [← Nat.add_assoc, settle, settle, ih]
theorem settle_one {c : List (List RIns)} {m : Nat} {s : St} (h : 0 < (mvs c s.th).length) : settle c m 1 s = moveN c m s 0 := by
  rw [settle, settle, if_pos h]
theorem settle_both {c : List (List RIns)} (h1 : OneC c) (u : Nat) : ∀ s : St, GoodS c.length s.th → cntU s.th c.length = u → ∃ f j0 j1, j0 ≤ u ∧ j1 ≤ 2 * u ∧ settle c 0 j0 s = f ∧ settle c 1 j1 s = f ∧ (mvs c f.th).length = 0 := by
  induction u with
  | zero =>
    intro s hg hu
    exact ⟨s, 0, 0, Nat.le_refl _, Nat.le_refl _, rfl, rfl, (mvTo_cnt h1 (Nat.le_refl _) hg).trans hu⟩
  | succ u ih =>
    intro s hg hu
    obtain ⟨k, hk, hp, hz⟩ := cntU_pos (th := s.th) (n := c.length) (by omega)
    have hl := lt_of_get (mv_step h1 hk hg hp)
    obtain ⟨f, j0, j1, k0, k1, e0, e1, hf⟩ := ih (execS c k s) (exec_good hg hk hp) (by have := exec_cnt (c := c) (s := s) hk hp; omega)
    have m0 := move0 h1 hg hk hp
    have m1 := move1 h1 hg hk hp
    rw [hz] at m0 m1
    have s0 : settle c 0 1 s = execS c k s := (settle_one (by omega)).trans m0
    by_cases ho : (insOf c k (s.th k).pc).op = 1
    · obtain ⟨hm, hs⟩ := step1_store h1 hg hk hp ho
      have hl2 := lt_of_get hm
      rw [hz] at hs
      have s1 : settle c 1 (1 + 1) s = execS c k s := by
        rw [settle_add, (settle_one (by omega)).trans m1, settle_one (by omega), hs]
      refine ⟨f, 1 + j0, 1 + 1 + j1, by omega, by omega, ?_, ?_, hf⟩
      · rw [settle_add, s0, e0]
      · rw [settle_add, s1, e1]
    · have s1 : settle c 1 1 s = execS c k s := ((settle_one (by omega)).trans m1).trans (step1_other ho)
      refine ⟨f, 1 + j0, 1 + j1, by omega, by omega, ?_, ?_, hf⟩
      · rw [settle_add, s0, e0]
      · rw [settle_add, s1, e1]
theorem settle_same {c : List (List RIns)} (h1 : OneC c) (hn : c.length ≤ 16) {s : St} (hg : GoodS c.length s.th) : settle c 0 1024 s = settle c 1 1024 s := by
  obtain ⟨f, j0, j1, k0, k1, e0, e1, hf⟩ := settle_both h1 _ s hg rfl
  have hu := cntU_le s.th c.length
  have a := settle_stay c 0 s j0 (1024 - j0) (by rw [e0]; exact hf)
  have b := settle_stay c 1 s j1 (1024 - j1) (by rw [e1]; exact hf)
  rw [show j0 + (1024 - j0) = 1024 by omega] at a
  rw [show j1 + (1024 - j1) = 1024 by omega] at b
  rw [a, b, e0, e1]

/-- the threads below k that are not marked -/
def cntD (D : List Bool) : Nat → Nat
  | 0 => 0
  | k + 1 => cntD D k + if D[k]?.getD false then 0 else 1
theorem cntD_le (D : List Bool) (k : Nat) : cntD D k ≤ k := by
  induction k with
  | zero => exact Nat.le_refl _
  | succ k ih => rw [cntD]; split <;> omega
/-- the law's lists -/
def AInv (c : List (List RIns)) (D : List Bool) (now later : List Int) : Prop :=
  D.length = c.length ∧ ∃ s, runS c 0 now st0 = s ∧ runS c 1 later st0 = s ∧ GoodS c.length s.th ∧ (∀ k, k < c.length → D[k]?.getD false = decide ((s.th k).pc = 1)) ∧ now.length + cntU s.th c.length = c.length ∧ later.length ≤ 2 * now.length ∧ (∀ x ∈ now, 0 ≤ x ∧ x ≤ 16) ∧ ∀ x ∈ later, 0 ≤ x ∧ x ≤ 16
theorem st0_cnt (n : Nat) : cntU st0.th n = n := by
  induction n with
  | zero => rfl
  | succ n ih => rw [cntU, ih]; rfl
theorem AInv.init {c : List (List RIns)} : AInv c (List.replicate c.length false) [] [] := by
  refine ⟨by simp, st0, rfl, rfl, fun k _ => ⟨rfl, Or.inl rfl⟩, fun k hk => ?_, by rw [st0_cnt]; simp, by simp, by simp, by simp⟩
  rw [List.getElem?_replicate, if_pos hk]
  rfl
theorem cnt_DU {D : List Bool} {th : Nat → Th} {n : Nat} (hg : GoodS n th) (hD : ∀ k, k < n → D[k]?.getD false = decide ((th k).pc = 1)) {k : Nat} (hk : k ≤ n) : cntD D k = cntU th k := by
  induction k with
  | zero => rfl
  | succ k ih =>
    rw [cntD, cntU, ih (by omega), hD k (by omega)]
    rcases (hg k (by omega)).2 with h | h <;> rw [h] <;> simp
theorem AInv.step {c : List (List RIns)} (h1 : OneC c) (hn : c.length ≤ 16) {D : List Bool} {now later : List Int} (h : AInv c D now later) {k : Nat} (hk : k < c.length) (hd : D[k]?.getD false = false) :
    AInv c (D.set k true) (now ++ [((cntD D k : Nat) : Int)]) (later ++ ([((cntD D k : Nat) : Int)] ++ if (insOf c k 0).op = 1 then [((cntD D k : Nat) : Int)] else [])) := by
  obtain ⟨hl, s, r0, r1, hg, hD, hc, hlt, hx, hy⟩ := h
  have hp : (s.th k).pc = 0 := by
    have := hD k hk
    rw [hd] at this
    rcases (hg k hk).2 with e | e
    · exact e
    · rw [e] at this; simp at this
  have hcnt := cnt_DU hg hD (Nat.le_of_lt hk)
  have hle := cntD_le D k
  rw [hcnt] at hle ⊢
  have e0 := run0 h1 hg hk hp
  have e1 := run1 h1 hg hk hp
  rw [hp] at e1
  refine ⟨by rw [List.length_set]; exact hl, execS c k s, ?_, ?_, exec_good hg hk hp, fun j hj => ?_, ?_, ?_, ?_, ?_⟩
  · rw [runS_appendP, r0, e0]
  · rw [runS_appendP, r1, e1]
  · obtain ⟨t1, t2, _⟩ := exec_th c k s
    by_cases hjk : j = k
    · subst hjk
      rw [List.getElem?_set_self (by omega), t2, hp]
      rfl
    · rw [List.getElem?_set_ne (fun e => hjk e.symm), t1 j hjk]
      exact hD j hj
  · have := exec_cnt (c := c) (s := s) hk hp
    rw [List.length_append]
    simp only [List.length_cons, List.length_nil]
    omega
  · rw [List.length_append, List.length_append, List.length_append]
    split <;> simp only [List.length_cons, List.length_nil] <;> omega
  · intro x hx2
    rcases List.mem_append.1 hx2 with h | h
    · exact hx x h
    · rw [List.mem_singleton.1 h]; omega
  · intro x hx2
    rcases List.mem_append.1 hx2 with h | h
    · exact hy x h
    · rcases List.mem_append.1 h with h | h
      · rw [List.mem_singleton.1 h]; omega
      · split at h
        · rw [List.mem_singleton.1 h]; omega
        · simp at h
theorem AInv.len {c : List (List RIns)} {D : List Bool} {now later : List Int} (h : AInv c D now later) : now.length ≤ c.length ∧ later.length ≤ 2 * c.length := by
  obtain ⟨hl, s, r0, r1, hg, hD, hc, hlt, hx, hy⟩ := h
  omega
theorem AInv.play {c : List (List RIns)} (h1 : OneC c) (hn : c.length ≤ 16) {D : List Bool} {now later : List Int} (h : AInv c D now later) : playS c 0 now = playS c 1 later := by
  obtain ⟨hl, s, r0, r1, hg, _⟩ := h
  unfold playS
  rw [r0, r1]
  exact settle_same h1 hn hg

end Go.Proofs.Ytokfiflflcfidab
