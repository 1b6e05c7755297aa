import Derived.Test.YtokfiflflcfidabDoorCells
namespace Go.Proofs.YtokfiflflcfidabDoor
open Go.RowKit

/-- the edges, begun behind one to another thread, with cells -/
structure Lay (L : List Nat) : Prop where
  pos : 0 < L.length
  last : lC (L[L.length - 1]?.getD 0) = false
  some : 0 < L.countP lC

def cntC (L : List Nat) (i : Nat) : Nat := (L.take i).countP lC
def cellOf (L : List Nat) (i : Nat) : Nat := cntC L i % L.countP lC

theorem cntC_succ (L : List Nat) (i : Nat) (h : i < L.length) : cntC L (i + 1) = cntC L i + b1 (lC (L[i]?.getD 0)) := countP_take_succ lC L i h
theorem cntC_le (L : List Nat) (i : Nat) : cntC L i ≤ L.countP lC := (List.take_sublist i L).countP_le
theorem cntC_all (L : List Nat) : cntC L L.length = L.countP lC := by unfold cntC; rw [List.take_length]
theorem cntC_mono (L : List Nat) {i j : Nat} (h : i ≤ j) : cntC L i ≤ cntC L j := by
  unfold cntC
  have : L.take i = (L.take j).take i := by rw [List.take_take, Nat.min_eq_left h]
  rw [this]
  exact (List.take_sublist i _).countP_le

theorem cell_next (L : List Nat) (_hL : Lay L) {i : Nat} (hi : i < L.length) (hm : lC (L[i]?.getD 0) = false) : cellOf L ((i + 1) % L.length) = cellOf L i := by
  have h1 : cntC L (i + 1) = cntC L i := by
    have := cntC_succ L i hi
    rw [hm] at this
    simpa [b1] using this
  unfold cellOf
  by_cases hl : i + 1 = L.length
  · rw [hl, Nat.mod_self]
    rw [hl, cntC_all] at h1
    rw [← h1, Nat.mod_self]
    simp [cntC]
  · rw [Nat.mod_eq_of_lt (by omega : i + 1 < L.length), h1]

/-- event s is the first of its cell -/
def Opn (L : List Nat) (s : Nat) : Prop := 1 ≤ s ∧ s < L.length ∧ lC (L[s - 1]?.getD 0) = true

theorem opn_one (L : List Nat) {s t : Nat} (hs : Opn L s) (ht : Opn L t) (hc : cellOf L s = cellOf L t) : s = t := by
  have key : ∀ s t, Opn L s → Opn L t → s < t → cellOf L s = cellOf L t → False := by
    intro s t hs ht hlt hc
    have a1 := cntC_succ L (s - 1) (by have := hs.2.1; have := hs.1; omega)
    have a2 := cntC_succ L (t - 1) (by have := ht.2.1; have := ht.1; omega)
    rw [show s - 1 + 1 = s from by have := hs.1; omega, hs.2.2] at a1
    rw [show t - 1 + 1 = t from by have := ht.1; omega, ht.2.2] at a2
    have a3 := cntC_mono L (show s ≤ t - 1 by omega)
    have a4 := cntC_le L t
    have : b1 true = 1 := rfl
    unfold cellOf at hc
    generalize L.countP lC = C at *
    rw [Nat.mod_eq_of_lt (show cntC L s < C by omega)] at hc
    by_cases h : cntC L t = C
    · rw [h, Nat.mod_self] at hc; omega
    · rw [Nat.mod_eq_of_lt (by omega)] at hc; omega
  rcases Nat.lt_trichotomy s t with h | h | h
  · exact absurd (key s t hs ht h hc) id
  · exact h
  · exact absurd (key t s ht hs h hc.symm) id

/-- from event s: how many edges till one to another cell -/
def runE (L : List Nat) (s : Nat) : Nat := firstNo (fun m => !lC (L[(s + m) % L.length]?.getD 0)) L.length

theorem runE_step (L : List Nat) (s m : Nat) (h : m < runE L s) : lC (L[(s + m) % L.length]?.getD 0) = false := by
  have := firstNo_yes (fun m => !lC (L[(s + m) % L.length]?.getD 0)) L.length m h
  simpa using this
theorem runE_end (L : List Nat) (s : Nat) (h : runE L s < L.length) : lC (L[(s + runE L s) % L.length]?.getD 0) = true := by
  have := firstNo_no (fun m => !lC (L[(s + m) % L.length]?.getD 0)) L.length h
  have h2 : (!lC (L[(s + runE L s) % L.length]?.getD 0)) = false := this
  simpa using h2
theorem some_moving (L : List Nat) (hL : Lay L) : ∃ q, q < L.length ∧ lC (L[q]?.getD 0) = true := by
  obtain ⟨x, hx, hcx⟩ := List.countP_pos_iff.1 hL.some
  obtain ⟨i, hi, rfl⟩ := List.getElem_of_mem hx
  exact ⟨i, hi, by simpa [hi] using hcx⟩
theorem runE_lt (L : List Nat) (hL : Lay L) (n : Nat) : runE L n < L.length := by
  obtain ⟨i, hi, hc⟩ := some_moving L hL
  apply (firstNo_lt _ _).2
  refine ⟨(i + L.length - n % L.length) % L.length, Nat.mod_lt _ hL.pos, ?_⟩
  have hn := Nat.mod_lt n hL.pos
  have e1 : (n + (i + L.length - n % L.length) % L.length) % L.length = i := by
    rw [Nat.add_mod_mod, ← Nat.mod_add_mod, show n % L.length + (i + L.length - n % L.length) = i + L.length from by omega, Nat.add_mod_right, Nat.mod_eq_of_lt hi]
  simp only [e1, hc]; rfl

theorem mod_next (n a : Nat) : (a % n + 1) % n = (a + 1) % n := Nat.mod_add_mod _ _ _

theorem cell_run (L : List Nat) (hL : Lay L) (s k : Nat) (hs : s < L.length) (hk : k ≤ runE L s) : cellOf L ((s + k) % L.length) = cellOf L s := by
  induction k with
  | zero => rw [Nat.add_zero, Nat.mod_eq_of_lt hs]
  | succ k ih =>
    have h1 := ih (by omega)
    have h2 := cell_next L hL (Nat.mod_lt (s + k) hL.pos) (runE_step L s k (by omega))
    rw [mod_next] at h2
    rw [← Nat.add_assoc, h2, h1]

/-- every event stands in the row of some cell's first event -/
theorem at_row (L : List Nat) (hL : Lay L) (j : Nat) (hj : j < L.length) : ∃ s k, Opn L s ∧ k ≤ runE L s ∧ j = (s + k) % L.length := by
  obtain ⟨q, hq, hcq⟩ := some_moving L hL
  have hq1 : q + 1 < L.length := by
    by_cases h : q + 1 = L.length
    · have := hL.last; rw [← h, show q + 1 - 1 = q from by omega, hcq] at this; cases this
    · omega
  have key : ∀ t, ∃ s k, Opn L s ∧ k ≤ runE L s ∧ (q + 1 + t) % L.length = (s + k) % L.length := by
    intro t
    induction t with
    | zero => exact ⟨q + 1, 0, ⟨by omega, hq1, by simpa using hcq⟩, Nat.zero_le _, rfl⟩
    | succ t ih =>
      obtain ⟨s, k, h1, h2, h3⟩ := ih
      by_cases hm : lC (L[(s + k) % L.length]?.getD 0) = true
      · have hx := Nat.mod_lt (s + k) hL.pos
        have hx1 : (s + k) % L.length + 1 < L.length := by
          by_cases h : (s + k) % L.length + 1 = L.length
          · have := hL.last; rw [← h, show (s + k) % L.length + 1 - 1 = (s + k) % L.length from by omega, hm] at this; cases this
          · omega
        refine ⟨(s + k) % L.length + 1, 0, ⟨by omega, hx1, by simpa using hm⟩, Nat.zero_le _, ?_⟩
        rw [← Nat.add_assoc, ← mod_next, h3]
      · have hlt := runE_lt L hL s
        have hne : k ≠ runE L s := by
          intro h; rw [h] at hm; exact hm (runE_end L s hlt)
        refine ⟨s, k + 1, h1, by omega, ?_⟩
        rw [← Nat.add_assoc, ← Nat.add_assoc, ← mod_next, h3, mod_next]
  obtain ⟨s, k, h1, h2, h3⟩ := key (j + L.length - (q + 1))
  refine ⟨s, k, h1, h2, ?_⟩
  rw [← h3, show q + 1 + (j + L.length - (q + 1)) = j + L.length from by omega, Nat.add_mod_right, Nat.mod_eq_of_lt hj]

/-- the events whose values are not yet told -/
def ev1 (L : List Nat) : List Ev := evsTo L (L.countP lC) L.length
theorem ev1_length (L : List Nat) : (ev1 L).length = L.length := evsTo_length _ _ _
theorem ev1_at (L : List Nat) (i : Nat) (h : i < L.length) : (ev1 L)[i]?.getD ev0 = evS L (L.countP lC) i := by
  simp [ev1, evsTo, h]
theorem ev1_af (L : List Nat) (i : Nat) (h : i < L.length) : afOf (ev1 L) i = L[i]?.getD 0 := by
  unfold afOf; rw [ev1_at L i h]; rfl

theorem firstNo_congr (p q : Nat → Bool) (n : Nat) (h : ∀ i, i < n → p i = q i) : firstNo p n = firstNo q n := by
  induction n with
  | zero => rfl
  | succ n ih => simp only [firstNo]; rw [ih (fun i hi => h i (by omega)), h n (by omega)]

theorem runLen_eq (L : List Nat) (hL : Lay L) (s : Nat) : runLen (ev1 L) s = runE L s := by
  unfold runLen runE
  rw [ev1_length]
  exact firstNo_congr _ _ _ fun i _ => by rw [ev1_af L _ (Nat.mod_lt _ hL.pos)]
theorem opens_eq (L : List Nat) (hL : Lay L) (c s : Nat) (hs : s < L.length) : opens (ev1 L) c s = true ↔ Opn L s ∧ cellOf L s = c := by
  unfold opens
  rw [ev1_length, ev1_at L s hs, ev1_af L _ (Nat.mod_lt _ hL.pos)]
  simp only [evS, Bool.and_eq_true, beq_iff_eq]
  have : (L.take s).countP lC % L.countP lC = cellOf L s := rfl
  rw [this]
  by_cases h0 : s = 0
  · subst h0
    rw [Nat.zero_add, Nat.mod_eq_of_lt (by omega), hL.last]
    simp [Opn]
  · rw [show s + L.length - 1 = (s - 1) + L.length from by omega, Nat.add_mod_right, Nat.mod_eq_of_lt (by omega)]
    unfold Opn
    constructor
    · rintro ⟨h1, h2⟩; exact ⟨⟨by omega, hs, h2⟩, h1⟩
    · rintro ⟨⟨_, _, h2⟩, h1⟩; exact ⟨h1, h2⟩

theorem chTo_eq (L : List Nat) (hL : Lay L) (s : Nat) (ho : Opn L s) (k : Nat) (hk : k ≤ L.length) :
    chTo (ev1 L) (cellOf L s) k = if s < k then segTo L.length s (runE L s + 1) else [] := by
  induction k with
  | zero => rfl
  | succ k ih =>
    rw [chTo, ih (by omega)]
    by_cases hks : k = s
    · subst hks
      rw [if_neg (Nat.lt_irrefl k), if_pos ((opens_eq L hL _ _ ho.2.1).2 ⟨ho, rfl⟩), if_pos (Nat.lt_succ_self k), ev1_length, runLen_eq L hL]; rfl
    · rw [if_neg (c := opens (ev1 L) (cellOf L s) k = true)]
      · by_cases h : s < k
        · rw [if_pos h, if_pos (by omega), List.append_nil]
        · rw [if_neg h, if_neg (by omega)]; rfl
      · intro h
        have := (opens_eq L hL _ _ (by omega)).1 h
        exact hks (opn_one L this.1 ho this.2)
theorem chTo_none (L : List Nat) (hL : Lay L) (c : Nat) (h : ∀ s, Opn L s → cellOf L s ≠ c) (k : Nat) (hk : k ≤ L.length) : chTo (ev1 L) c k = [] := by
  induction k with
  | zero => rfl
  | succ k ih =>
    rw [chTo, ih (by omega), if_neg]
    · rfl
    · intro ho
      have := (opens_eq L hL _ _ (by omega)).1 ho
      exact h k this.1 this.2
theorem chain_at (L : List Nat) (hL : Lay L) (s : Nat) (ho : Opn L s) : chain (ev1 L) (cellOf L s) = segTo L.length s (runE L s + 1) := by
  unfold chain
  rw [ev1_length, chTo_eq L hL s ho _ (Nat.le_refl _), if_pos ho.2.1]
theorem chain_cell (L : List Nat) (hL : Lay L) (c x : Nat) (hx : x ∈ chain (ev1 L) c) : cellOf L x = c := by
  by_cases h : ∃ s, Opn L s ∧ cellOf L s = c
  · obtain ⟨s, ho, rfl⟩ := h
    rw [chain_at L hL s ho] at hx
    simp only [segTo, List.mem_map, List.mem_range] at hx
    obtain ⟨k, hk, rfl⟩ := hx
    exact cell_run L hL s k ho.2.1 (by omega)
  · unfold chain at hx
    rw [ev1_length, chTo_none L hL c (fun s ho he => h ⟨s, ho, he⟩) _ (Nat.le_refl _)] at hx
    cases hx

theorem seg_inj (n s : Nat) {i j : Nat} (hi : i < n) (hj : j < n) (h : (s + i) % n = (s + j) % n) : i = j := by
  have h1 := mod_shift n i j s hj
  rw [show i + s = s + i from Nat.add_comm _ _, show j + s = s + j from Nat.add_comm _ _, h, beq_self_eq_true] at h1
  have h2 : i % n = j := by simpa using h1.symm
  rw [Nat.mod_eq_of_lt hi] at h2
  exact h2
theorem seg_nodup (n s m : Nat) (hm : m ≤ n) : (segTo n s m).Nodup := by
  induction m with
  | zero => simp [segTo]
  | succ m ih =>
    rw [segTo_succ, List.nodup_append]
    refine ⟨ih (by omega), by simp, ?_⟩
    intro a ha b hb
    simp only [List.mem_singleton] at hb
    subst hb
    simp only [segTo, List.mem_map, List.mem_range] at ha
    obtain ⟨k, hk, rfl⟩ := ha
    intro h
    have := seg_inj n s (show k < n by omega) (show m < n by omega) h
    omega

/-- how many of the first p events of ch write -/
def cw (l : List Ev) (ch : List Nat) (p : Nat) : Nat := (ch.take p).countP fun i => (l[i]?.getD ev0).wr

theorem cw_succ (l : List Ev) (ch : List Nat) (p : Nat) (h : p < ch.length) : cw l ch (p + 1) = cw l ch p + if (l[ch[p]?.getD 0]?.getD ev0).wr then 1 else 0 := by
  unfold cw; rw [take_snoc ch p h, List.countP_append]; simp [List.countP_cons]

theorem val_at (l : List Ev) (ch : List Nat) (hnd : ch.Nodup) (hlt : ∀ x ∈ ch, x < l.length) (k : Nat) (hk : k ≤ ch.length) :
    (∀ p, p < k → (valTo l ch k).1[ch[p]?.getD 0]?.getD ev0 = { l[ch[p]?.getD 0]?.getD ev0 with va := cw l ch (p + 1), lo := !(l[ch[p]?.getD 0]?.getD ev0).wr && ch.length == 1 }) ∧
    (∀ i, i ∉ ch.take k → (valTo l ch k).1[i]? = l[i]?) ∧ (valTo l ch k).2 = cw l ch k := by
  induction k with
  | zero => exact ⟨fun p hp => absurd hp (by omega), fun i _ => rfl, rfl⟩
  | succ k ih =>
    obtain ⟨h1, h2, h3⟩ := ih (by omega)
    have hkl : k < ch.length := by omega
    have hmem : ch[k]?.getD 0 ∈ ch := by simp [hkl]
    have hnot : ch[k]?.getD 0 ∉ ch.take k := by
      have : (ch.take (k + 1)).Nodup := List.Sublist.nodup (List.take_sublist _ _) hnd
      rw [take_snoc ch k hkl, List.nodup_append] at this
      intro h
      exact this.2.2 _ h _ (List.mem_singleton.2 rfl) rfl
    have hsame : (valTo l ch k).1[ch[k]?.getD 0]? = l[ch[k]?.getD 0]? := h2 _ hnot
    have hlen : (valTo l ch k).1.length = l.length := (Stat.val l ch k).1
    rw [valTo_succ l ch k hkl]
    refine ⟨fun p hp => ?_, fun i hi => ?_, ?_⟩
    · by_cases hpk : p = k
      · subst hpk
        simp only [putV]
        rw [List.getElem?_set_self (by rw [hlen]; exact hlt _ hmem), hsame, h3, cw_succ l ch p hkl]
        rfl
      · have hne : ch[k]?.getD 0 ≠ ch[p]?.getD 0 := by
          intro h
          apply hnot
          rw [h]
          have hpl : p < ch.length := by omega
          have : ch[p]?.getD 0 = (ch.take k)[p]'(by simp; omega) := by simp [hpl]
          rw [this]
          exact List.getElem_mem _
        simp only [putV]
        rw [List.getElem?_set_ne hne]
        exact h1 p (by omega)
    · rw [take_snoc ch k hkl, List.mem_append, List.mem_singleton] at hi
      simp only [putV]
      rw [List.getElem?_set_ne (fun h => hi (Or.inr h.symm))]
      exact h2 i (fun h => hi (Or.inl h))
    · simp only [putV]
      rw [hsame, h3, cw_succ l ch k hkl]

theorem chain_stat {a b : List Ev} (h : Stat a b) (c : Nat) : chain b c = chain a c := by
  have haf : ∀ i, afOf b i = afOf a i := fun i => (h.2 i).2.2.2
  have hr : ∀ i, runLen b i = runLen a i := by
    intro i; unfold runLen; rw [h.1]; exact firstNo_congr _ _ _ fun m _ => by rw [haf]
  have ho : ∀ i, opens b c i = opens a c i := by
    intro i; unfold opens; rw [h.1, haf, (h.2 i).2.2.1]
  have key : ∀ k, chTo b c k = chTo a c k := by
    intro k
    induction k with
    | zero => rfl
    | succ k ih => rw [chTo, chTo, ih, ho, hr, h.1]
  unfold chain
  rw [h.1, key]
theorem cw_stat {a b : List Ev} (h : Stat a b) (ch : List Nat) (p : Nat) : cw b ch p = cw a ch p := by
  unfold cw
  congr 1
  funext i
  exact (h.2 i).1

/-- how many of the events s, s + 1 .. (k of them) write -/
def sw (L : List Nat) (s k : Nat) : Nat := (List.range k).countP fun m => bW (L[(s + m) % L.length]?.getD 0)
theorem sw_succ (L : List Nat) (s k : Nat) : sw L s (k + 1) = sw L s k + b1 (bW (L[(s + k) % L.length]?.getD 0)) := by
  unfold sw b1; rw [List.range_succ, List.countP_append]; simp [List.countP_cons]
theorem sw_mono (L : List Nat) (s : Nat) {i j : Nat} (h : i ≤ j) : sw L s i ≤ sw L s j := by
  induction j with
  | zero => have : i = 0 := by omega
            subst this; exact Nat.le_refl _
  | succ j ih =>
    rw [sw_succ]
    by_cases hij : i = j + 1
    · subst hij; rw [sw_succ]; exact Nat.le_refl _
    · have := ih (by omega); omega
theorem cw_sw (L : List Nat) (hL : Lay L) (s m p : Nat) (hp : p ≤ m) : cw (ev1 L) (segTo L.length s m) p = sw L s p := by
  induction p with
  | zero => rfl
  | succ p ih =>
    have hseg : (segTo L.length s m)[p]?.getD 0 = (s + p) % L.length := by simp [segTo, show p < m from by omega]
    rw [cw_succ _ _ _ (by rw [segTo_length]; omega), ih (by omega), sw_succ, hseg, ev1_at L _ (Nat.mod_lt _ hL.pos)]
    rfl

theorem cell_val (L : List Nat) (hL : Lay L) (c : Nat) : ∀ s k, Opn L s → k ≤ runE L s →
    (cellTo (ev1 L) c)[(s + k) % L.length]?.getD ev0 =
      if cellOf L s < c then { evS L (L.countP lC) ((s + k) % L.length) with va := sw L s (k + 1), lo := !bW (L[(s + k) % L.length]?.getD 0) && runE L s == 0 }
      else evS L (L.countP lC) ((s + k) % L.length) := by
  induction c with
  | zero => intro s k _ _; rw [if_neg (by omega)]; exact ev1_at L _ (Nat.mod_lt _ hL.pos)
  | succ c ih =>
    intro s k ho hk
    have hj := Nat.mod_lt (s + k) hL.pos
    have hst := Stat.cell (ev1 L) c
    have hch : chain (cellTo (ev1 L) c) c = chain (ev1 L) c := chain_stat hst c
    rw [cellTo, hch]
    by_cases hc : cellOf L s = c
    · subst hc
      have hlt := runE_lt L hL s
      rw [if_pos (by omega), chain_at L hL s ho]
      have hlen : (segTo L.length s (runE L s + 1)).length = runE L s + 1 := segTo_length _ _ _
      have hv := val_at (cellTo (ev1 L) (cellOf L s)) (segTo L.length s (runE L s + 1)) (seg_nodup _ _ _ (by omega))
        (by
          intro x hx
          rw [hst.1, ev1_length]
          simp only [segTo, List.mem_map] at hx
          obtain ⟨m, _, rfl⟩ := hx
          exact Nat.mod_lt _ hL.pos) _ (Nat.le_refl _)
      have h1 := hv.1 k (by rw [hlen]; omega)
      have hseg : (segTo L.length s (runE L s + 1))[k]?.getD 0 = (s + k) % L.length := by simp [segTo, show k < runE L s + 1 from by omega]
      rw [hseg] at h1
      rw [h1, ih s k ho hk, if_neg (by omega), cw_stat hst, cw_sw L hL s _ _ (by omega), hlen]
      have : (runE L s + 1 == 1) = (runE L s == 0) := by rw [Bool.eq_iff_iff, beq_iff_eq, beq_iff_eq]; omega
      rw [this]
      rfl
    · have hnot : (s + k) % L.length ∉ chain (ev1 L) c := by
        intro h
        have := chain_cell L hL c _ h
        rw [cell_run L hL s k ho.2.1 hk] at this
        exact hc this
      have hv : ((valTo (cellTo (ev1 L) c) (chain (ev1 L) c) (chain (ev1 L) c).length).1)[(s + k) % L.length]? = (cellTo (ev1 L) c)[(s + k) % L.length]? := by
        by_cases h : ∃ s', Opn L s' ∧ cellOf L s' = c
        · obtain ⟨s', ho', he'⟩ := h
          have hlt := runE_lt L hL s'
          have hnd : (chain (ev1 L) c).Nodup := by rw [← he', chain_at L hL s' ho']; exact seg_nodup _ _ _ (by omega)
          have := (val_at (cellTo (ev1 L) c) (chain (ev1 L) c) hnd (by
            intro x hx
            rw [hst.1]
            exact mem_chTo _ c _ (by rw [ev1_length]; exact hL.pos) x hx) _ (Nat.le_refl _)).2.1 ((s + k) % L.length) (by rw [List.take_length]; exact hnot)
          exact this
        · have : chain (ev1 L) c = [] := by
            unfold chain
            rw [ev1_length]
            exact chTo_none L hL c (fun s ho he => h ⟨s, ho, he⟩) _ (Nat.le_refl _)
          rw [this]; rfl
      rw [hv, ih s k ho hk]
      by_cases h : cellOf L s < c
      · rw [if_pos h, if_pos (by omega)]
      · rw [if_neg h, if_neg (by omega)]

end Go.Proofs.YtokfiflflcfidabDoor

namespace Go.Proofs.YtokfiflflcfidabDoor
open Go.RowKit

/-- the value and the claim's lack of event i -/
def vaOf (L : List Nat) (i : Nat) : Nat := ((eventsL L)[i]?.getD ev0).va
def prv (L : List Nat) (i : Nat) : Nat := (i + L.length - 1) % L.length
def thrOf (L : List Nat) (i : Nat) : Nat := (L.take i).countP lT
def kd (L : List Nat) (i : Nat) : Bool := bW (L[i]?.getD 0)

theorem cell_lt (L : List Nat) (hL : Lay L) (i : Nat) : cellOf L i < L.countP lC := Nat.mod_lt _ hL.some

theorem ev_row (L : List Nat) (hL : Lay L) (s k : Nat) (ho : Opn L s) (hk : k ≤ runE L s) :
    (eventsL L)[(s + k) % L.length]?.getD ev0 = ⟨kd L ((s + k) % L.length), thrOf L ((s + k) % L.length), cellOf L ((s + k) % L.length), L[(s + k) % L.length]?.getD 0, sw L s (k + 1), !kd L ((s + k) % L.length) && runE L s == 0⟩ := by
  have h := cell_val L hL (L.countP lC) s k ho hk
  rw [if_pos (cell_lt L hL s)] at h
  exact h

theorem prv_row (L : List Nat) (hL : Lay L) (s k : Nat) (hk : 0 < k) : prv L ((s + k) % L.length) = (s + (k - 1)) % L.length := by
  have hp := hL.pos
  unfold prv
  rw [show (s + k) % L.length + L.length - 1 = (s + k) % L.length + (L.length - 1) from by omega, Nat.mod_add_mod,
    show s + k + (L.length - 1) = s + (k - 1) + L.length from by omega, Nat.add_mod_right]
theorem prv_open (L : List Nat) (s : Nat) (ho : Opn L s) : prv L (s % L.length) = s - 1 := by
  have h1 := ho.1
  have h2 := ho.2.1
  unfold prv
  rw [Nat.mod_eq_of_lt h2, show s + L.length - 1 = (s - 1) + L.length from by omega, Nat.add_mod_right, Nat.mod_eq_of_lt (by omega)]

/-- event i: all of it but its value -/
theorem ev_stat (L : List Nat) (hL : Lay L) (i : Nat) (hi : i < L.length) :
    (eventsL L)[i]?.getD ev0 = ⟨kd L i, thrOf L i, cellOf L i, L[i]?.getD 0, vaOf L i, !kd L i && (lC (L[prv L i]?.getD 0) && lC (L[i]?.getD 0))⟩ := by
  obtain ⟨s, k, ho, hk, rfl⟩ := at_row L hL i hi
  have h := ev_row L hL s k ho hk
  unfold vaOf
  rw [h]
  have hlo : (runE L s == 0) = (lC (L[prv L ((s + k) % L.length)]?.getD 0) && lC (L[(s + k) % L.length]?.getD 0)) := by
    have hlt := runE_lt L hL s
    by_cases h0 : k = 0
    · subst h0
      rw [Nat.add_zero s, prv_open L s ho, ho.2.2, Bool.true_and]
      have hs := Nat.mod_eq_of_lt ho.2.1
      by_cases hr : runE L s = 0
      · have := runE_end L s hlt
        rw [hr, Nat.add_zero] at this
        rw [hr, this]; rfl
      · have := runE_step L s 0 (by omega)
        rw [Nat.add_zero] at this
        rw [this, beq_eq_false_iff_ne.2 hr]
    · rw [prv_row L hL s k (by omega), runE_step L s (k - 1) (by omega), Bool.false_and, beq_eq_false_iff_ne]
      omega
  rw [hlo]

theorem va_row (L : List Nat) (hL : Lay L) (s k : Nat) (ho : Opn L s) (hk : k ≤ runE L s) : vaOf L ((s + k) % L.length) = sw L s (k + 1) := by
  unfold vaOf; rw [ev_row L hL s k ho hk]

/-- a value, from the event ahead -/
theorem va_rec (L : List Nat) (hL : Lay L) (i : Nat) (hi : i < L.length) : vaOf L i = (if lC (L[prv L i]?.getD 0) then 0 else vaOf L (prv L i)) + b1 (kd L i) := by
  obtain ⟨s, k, ho, hk, rfl⟩ := at_row L hL i hi
  rw [va_row L hL s k ho hk]
  by_cases h0 : k = 0
  · subst h0
    rw [Nat.add_zero s, prv_open L s ho, ho.2.2, if_pos rfl, sw_succ]
    rfl
  · rw [prv_row L hL s k (by omega), runE_step L s (k - 1) (by omega), va_row L hL s (k - 1) ho (by omega), show k - 1 + 1 = k from by omega, sw_succ]
    rfl

/-- two writes of one cell have two values -/
theorem va_inj (L : List Nat) (hL : Lay L) {i j : Nat} (hi : i < L.length) (hj : j < L.length) (wi : kd L i = true) (wj : kd L j = true) (hc : cellOf L i = cellOf L j) (hv : vaOf L i = vaOf L j) : i = j := by
  obtain ⟨s, k, ho, hk, rfl⟩ := at_row L hL i hi
  obtain ⟨t, m, ho', hm, rfl⟩ := at_row L hL j hj
  rw [cell_run L hL s k ho.2.1 hk, cell_run L hL t m ho'.2.1 hm] at hc
  have := opn_one L ho ho' hc
  subst this
  rw [va_row L hL s k ho hk, va_row L hL s m ho hm] at hv
  unfold kd at wi wj
  rcases Nat.lt_trichotomy k m with h | h | h
  · have h1 := sw_mono L s (show k + 1 ≤ m by omega)
    rw [sw_succ L s m, wj] at hv
    have : b1 true = 1 := rfl
    omega
  · rw [h]
  · have h1 := sw_mono L s (show m + 1 ≤ k by omega)
    rw [sw_succ L s k, wi] at hv
    have : b1 true = 1 := rfl
    omega

theorem va_pos (L : List Nat) (hL : Lay L) {i : Nat} (hi : i < L.length) (wi : kd L i = true) : 1 ≤ vaOf L i := by
  rw [va_rec L hL i hi, wi, show b1 true = 1 from rfl]; omega

/-- so many places of a list at which p holds -/
theorem count_of {α : Type} (p : α → Bool) (d : α) (l : List α) (xs : List Nat) (hnd : xs.Nodup) (h : ∀ x ∈ xs, x < l.length ∧ p (l[x]?.getD d) = true) : xs.length ≤ l.countP p := by
  induction hn : l.length generalizing l xs with
  | zero =>
    cases xs with
    | nil => simp
    | cons x xs => have := (h x (List.mem_cons_self)).1; omega
  | succ n ih =>
    have hsp : l.take n ++ [l[n]?.getD d] = l := by
      have h1 := List.take_succ_eq_append_getElem (l := l) (i := n) (by omega)
      rw [List.take_of_length_le (by omega)] at h1
      rw [show l[n]?.getD d = l[n]'(by omega) from by simp [show n < l.length from by omega]]
      exact h1.symm
    have hys := ih (l.take n) (xs.filter (· != n)) (List.Sublist.nodup List.filter_sublist hnd) (by
      intro x hx
      rw [List.mem_filter] at hx
      have h1 := h x hx.1
      have h2 : x ≠ n := by simpa using hx.2
      refine ⟨by simp; omega, ?_⟩
      rw [List.getElem?_take_of_lt (by omega)]
      exact h1.2) (by simp; omega)
    have hcount : l.countP p = (l.take n).countP p + b1 (p (l[n]?.getD d)) := by
      conv => lhs; rw [← hsp]
      rw [List.countP_append]
      simp [List.countP_cons, b1]
    have hlen : xs.length ≤ (xs.filter (· != n)).length + b1 (p (l[n]?.getD d)) := by
      by_cases hm : n ∈ xs
      · have h1 := (h n hm).2
        rw [h1, show b1 true = 1 from rfl]
        have e1 : xs.erase n = xs.filter (· != n) := List.Nodup.erase_eq_filter hnd n
        rw [← e1, List.length_erase_of_mem hm]
        omega
      · have : xs.filter (· != n) = xs := by
          rw [List.filter_eq_self]
          intro a ha
          have : a ≠ n := fun e => hm (e ▸ ha)
          simpa using this
        rw [this]; omega
    omega

theorem events_length (L : List Nat) : (eventsL L).length = L.length := by
  have := (Stat.cell (ev1 L) (L.countP lC)).1
  rw [ev1_length] at this
  exact this

/-- how many writes cell c has -/
def wrs (L : List Nat) (c : Nat) : Nat := (eventsL L).countP (isW c)

theorem isW_at (L : List Nat) (hL : Lay L) (c i : Nat) (hi : i < L.length) : isW c ((eventsL L)[i]?.getD ev0) = (kd L i && cellOf L i == c) := by
  rw [ev_stat L hL i hi]; rfl

theorem va_le (L : List Nat) (hL : Lay L) {i : Nat} (hi : i < L.length) : vaOf L i ≤ wrs L (cellOf L i) := by
  obtain ⟨s, k, ho, hk, rfl⟩ := at_row L hL i hi
  have hlt := runE_lt L hL s
  rw [va_row L hL s k ho hk, cell_run L hL s k ho.2.1 hk]
  have h1 := count_of (isW (cellOf L s)) ev0 (eventsL L) ((segTo L.length s (k + 1)).filter (kd L)) (List.Sublist.nodup List.filter_sublist (seg_nodup _ _ _ (by omega))) (by
    intro x hx
    rw [List.mem_filter] at hx
    simp only [segTo, List.mem_map, List.mem_range] at hx
    obtain ⟨⟨m, hm, rfl⟩, hw⟩ := hx
    have hx' := Nat.mod_lt (s + m) hL.pos
    refine ⟨by rw [events_length]; exact hx', ?_⟩
    rw [isW_at L hL _ _ hx', hw, cell_run L hL s m ho.2.1 (by omega)]
    simp)
  have h2 : ((segTo L.length s (k + 1)).filter (kd L)).length = sw L s (k + 1) := by
    rw [← List.countP_eq_length_filter]
    unfold segTo sw
    rw [List.countP_map]
    rfl
  rw [h2] at h1
  exact h1

/-- two places at which p holds -/
theorem two_of {α : Type} (p : α → Bool) (d : α) (l : List α) (h : 2 ≤ l.countP p) : ∃ i j, i < j ∧ j < l.length ∧ p (l[i]?.getD d) = true ∧ p (l[j]?.getD d) = true := by
  induction l with
  | nil => simp at h
  | cons a l ih =>
    rw [List.countP_cons] at h
    by_cases ha : p a = true
    · rw [if_pos ha] at h
      obtain ⟨x, hx, hpx⟩ := List.countP_pos_iff.1 (show 0 < l.countP p by omega)
      obtain ⟨j, hj, rfl⟩ := List.getElem_of_mem hx
      exact ⟨0, j + 1, by omega, by simpa using hj, by simpa using ha, by simpa [hj] using hpx⟩
    · rw [if_neg ha] at h
      obtain ⟨i, j, h1, h2, h3, h4⟩ := ih h
      exact ⟨i + 1, j + 1, by omega, by simpa using h2, by simpa using h3, by simpa using h4⟩
theorem one_of {α : Type} (p : α → Bool) (d : α) (l : List α) (h : 1 ≤ l.countP p) : ∃ i, i < l.length ∧ p (l[i]?.getD d) = true := by
  obtain ⟨x, hx, hpx⟩ := List.countP_pos_iff.1 (show 0 < l.countP p by omega)
  obtain ⟨j, hj, rfl⟩ := List.getElem_of_mem hx
  exact ⟨j, hj, by simpa [hj] using hpx⟩

/-- a cell with two writes: the first and the second -/
theorem two_writes (L : List Nat) (hL : Lay L) (c : Nat) (h : wrs L c = 2) : ∃ i j, i < L.length ∧ j < L.length ∧ kd L i = true ∧ kd L j = true ∧ cellOf L i = c ∧ cellOf L j = c ∧ vaOf L i = 1 ∧ vaOf L j = 2 := by
  obtain ⟨i, j, hij, hj, h1, h2⟩ := two_of (isW c) ev0 (eventsL L) (by unfold wrs at h; omega)
  rw [events_length] at hj
  rw [isW_at L hL _ _ (by omega), Bool.and_eq_true, beq_iff_eq] at h1 h2
  have a1 := va_pos L hL (show i < L.length by omega) h1.1
  have a2 := va_pos L hL hj h2.1
  have b1 := va_le L hL (show i < L.length by omega)
  have b2 := va_le L hL hj
  rw [h1.2, h] at b1
  rw [h2.2, h] at b2
  have hne : vaOf L i ≠ vaOf L j := by
    intro e
    have := va_inj L hL (by omega) hj h1.1 h2.1 (h1.2.trans h2.2.symm) e
    omega
  by_cases hi1 : vaOf L i = 1
  · exact ⟨i, j, by omega, hj, h1.1, h2.1, h1.2, h2.2, hi1, by omega⟩
  · exact ⟨j, i, hj, by omega, h2.1, h1.1, h2.2, h1.2, by omega, by omega⟩

/-- the program's count, going back from event i -/
def vB (L : List Nat) : Nat → Nat → Nat
  | 0, _ => 0
  | f + 1, i => b1 (kd L i) + if lC (L[prv L i]?.getD 0) then 0 else vB L f (prv L i)
theorem vB_row (L : List Nat) (hL : Lay L) (s : Nat) (ho : Opn L s) (k f : Nat) (hk : k ≤ runE L s) (hf : k < f) : vB L f ((s + k) % L.length) = sw L s (k + 1) := by
  induction k generalizing f with
  | zero =>
    obtain ⟨f, rfl⟩ : ∃ g, f = g + 1 := ⟨f - 1, by omega⟩
    rw [vB, Nat.add_zero s, prv_open L s ho, ho.2.2, if_pos rfl, sw_succ]
    simp [sw, kd]
  | succ k ih =>
    obtain ⟨f, rfl⟩ : ∃ g, f = g + 1 := ⟨f - 1, by omega⟩
    rw [vB, prv_row L hL s (k + 1) (by omega), show k + 1 - 1 = k from by omega, runE_step L s k (by omega), if_neg (by simp), ih f (by omega) (by omega), sw_succ L s (k + 1)]
    unfold kd
    omega
theorem vB_eq (L : List Nat) (hL : Lay L) (i : Nat) (hi : i < L.length) : vB L L.length i = vaOf L i := by
  obtain ⟨s, k, ho, hk, rfl⟩ := at_row L hL i hi
  have := runE_lt L hL s
  rw [vB_row L hL s ho k _ hk (by omega), va_row L hL s k ho hk]

end Go.Proofs.YtokfiflflcfidabDoor

namespace Go.Proofs.YtokfiflflcfidabDoor
open Go.RowKit

def nxt (L : List Nat) (i : Nat) : Nat := (i + 1) % L.length
def isRf (e : Nat) : Bool := 12 ≤ e
def isCo (e : Nat) : Bool := e ≤ 1
def isFr (e : Nat) : Bool := e == 6 || e == 7

/-- a closed cycle of edges -/
structure Ring (L : List Nat) : Prop extends Lay L where
  small : ∀ x ∈ L, x < 14
  joins : ∀ i, i < L.length → kd L (nxt L i) = eW (L[i]?.getD 0)
  few : ∀ c, wrs L c ≤ 2

theorem prv_lt (L : List Nat) (hL : Lay L) (i : Nat) : prv L i < L.length := Nat.mod_lt _ hL.pos
theorem nxt_lt (L : List Nat) (hL : Lay L) (i : Nat) : nxt L i < L.length := Nat.mod_lt _ hL.pos
theorem nxt_prv (L : List Nat) (hL : Lay L) {i : Nat} (hi : i < L.length) : nxt L (prv L i) = i := by
  have := hL.pos
  unfold nxt prv
  rw [Nat.mod_add_mod, show i + L.length - 1 + 1 = i + L.length from by omega, Nat.add_mod_right, Nat.mod_eq_of_lt hi]
theorem prv_nxt (L : List Nat) (hL : Lay L) {i : Nat} (hi : i < L.length) : prv L (nxt L i) = i := by
  have := hL.pos
  unfold nxt prv
  rw [show (i + 1) % L.length + L.length - 1 = (i + 1) % L.length + (L.length - 1) from by omega, Nat.mod_add_mod, show i + 1 + (L.length - 1) = i + L.length from by omega, Nat.add_mod_right, Nat.mod_eq_of_lt hi]

theorem edge_kinds {e : Nat} (h : e < 14) (hm : lC e = false) :
    (isRf e = true ∧ isCo e = false ∧ isFr e = false ∧ bW e = true ∧ eW e = false) ∨ (isRf e = false ∧ isCo e = true ∧ isFr e = false ∧ bW e = true ∧ eW e = true) ∨ (isRf e = false ∧ isCo e = false ∧ isFr e = true ∧ bW e = false ∧ eW e = true) := by
  rcases cases14 h with rfl | rfl | rfl | rfl | rfl | rfl | rfl | rfl | rfl | rfl | rfl | rfl | rfl | rfl <;> revert hm <;> decide
theorem edge_moves {e : Nat} (h : e < 14) (hm : lC e = true) : isRf e = false ∧ isCo e = false ∧ isFr e = false := by
  rcases cases14 h with rfl | rfl | rfl | rfl | rfl | rfl | rfl | rfl | rfl | rfl | rfl | rfl | rfl | rfl <;> revert hm <;> decide

theorem va_nxt (L : List Nat) (hL : Lay L) {i : Nat} (hi : i < L.length) (hm : lC (L[i]?.getD 0) = false) : vaOf L (nxt L i) = vaOf L i + b1 (kd L (nxt L i)) := by
  rw [va_rec L hL _ (nxt_lt L hL i), prv_nxt L hL hi, hm]; rfl
theorem va_new (L : List Nat) (hL : Lay L) {i : Nat} (hi : i < L.length) (hm : lC (L[i]?.getD 0) = true) : vaOf L (nxt L i) = b1 (kd L (nxt L i)) := by
  rw [va_rec L hL _ (nxt_lt L hL i), prv_nxt L hL hi, hm, if_pos rfl, Nat.zero_add]

/-- a read of which nothing is claimed -/
def lone (L : List Nat) (i : Nat) : Bool := lC (L[prv L i]?.getD 0) && lC (L[i]?.getD 0)

/-- a choice: fr i: 0, or one more than the write that read i was given; pl i: the place of write i -/
structure Choice (L : List Nat) (fr pl : Nat → Nat) : Prop where
  from_ : ∀ i, i < L.length → kd L i = false → fr i = 0 ∨ ∃ j, fr i = j + 1 ∧ j < L.length ∧ kd L j = true ∧ cellOf L j = cellOf L i
def valR (L : List Nat) (fr : Nat → Nat) (i : Nat) : Nat := if fr i = 0 then 0 else vaOf L (fr i - 1)

/-- the claims of the reads are met -/
def MetR (L : List Nat) (fr : Nat → Nat) : Prop := ∀ i, i < L.length → kd L i = false → lone L i = false → valR L fr i = vaOf L i
/-- the second write of each cell comes behind the first -/
def MetC (L : List Nat) (pl : Nat → Nat) : Prop := ∀ i j, i < L.length → j < L.length → kd L i = true → kd L j = true → cellOf L i = cellOf L j → vaOf L i = 1 → vaOf L j = 2 → pl i < pl j
/-- edge i holds -/
def Holds (L : List Nat) (fr pl : Nat → Nat) (i : Nat) : Prop :=
  (isRf (L[i]?.getD 0) = true → fr (nxt L i) = i + 1) ∧ (isCo (L[i]?.getD 0) = true → pl i < pl (nxt L i)) ∧ (isFr (L[i]?.getD 0) = true → fr i ≠ 0 → pl (fr i - 1) < pl (nxt L i))

theorem exact_to (L : List Nat) (hR : Ring L) (fr pl : Nat → Nat) (hC : Choice L fr pl) (h1 : MetR L fr) (h2 : MetC L pl) : ∀ i, i < L.length → Holds L fr pl i := by
  intro i hi
  have hL := hR.toLay
  have he := getD_lt hR.small i
  have hj := hR.joins i hi
  have hjl := nxt_lt L hL i
  have hpn := prv_nxt L hL hi
  by_cases hm : lC (L[i]?.getD 0) = true
  · obtain ⟨a, b, c⟩ := edge_moves he hm
    exact ⟨fun h => by simp [a] at h, fun h => by simp [b] at h, fun h => by simp [c] at h⟩
  · have hm : lC (L[i]?.getD 0) = false := by simpa using hm
    have hva := va_nxt L hL hi hm
    have hce : cellOf L (nxt L i) = cellOf L i := cell_next L hL hi hm
    have hle := va_le L hL hjl
    have hfew := hR.few (cellOf L (nxt L i))
    rcases edge_kinds he hm with ⟨a, b, c, d, e⟩ | ⟨a, b, c, d, e⟩ | ⟨a, b, c, d, e⟩
    · refine ⟨fun _ => ?_, fun h => by simp [b] at h, fun h => by simp [c] at h⟩
      rw [e] at hj
      have hki : kd L i = true := d
      have hv := h1 (nxt L i) hjl hj (by unfold lone; rw [hpn, hm]; rfl)
      rw [hj, show b1 false = 0 from rfl, Nat.add_zero] at hva
      have hpos := va_pos L hL hi hki
      rcases hC.from_ (nxt L i) hjl hj with h0 | ⟨k, hk, hkl, hkw, hkc⟩
      · unfold valR at hv; rw [if_pos h0] at hv; omega
      · unfold valR at hv
        rw [if_neg (by omega), hk, show k + 1 - 1 = k from by omega, hva] at hv
        rw [hk, va_inj L hL hkl hi hkw hki (hkc.trans hce) hv]
    · refine ⟨fun h => by simp [a] at h, fun _ => ?_, fun h => by simp [c] at h⟩
      rw [e] at hj
      have hki : kd L i = true := d
      rw [hj, show b1 true = 1 from rfl] at hva
      have hpos := va_pos L hL hi hki
      exact h2 i (nxt L i) hi hjl hki hj hce.symm (by omega) (by omega)
    · refine ⟨fun h => by simp [a] at h, fun h => by simp [b] at h, fun _ h0 => ?_⟩
      rw [e] at hj
      have hki : kd L i = false := d
      rw [hj, show b1 true = 1 from rfl] at hva
      have hv := h1 i hi hki (by unfold lone; rw [hm, Bool.and_false])
      rcases hC.from_ i hi hki with h0' | ⟨k, hk, hkl, hkw, hkc⟩
      · exact absurd h0' h0
      · unfold valR at hv
        rw [if_neg h0, hk, show k + 1 - 1 = k from by omega] at hv
        have hpos := va_pos L hL hkl hkw
        rw [hk, show k + 1 - 1 = k from by omega]
        exact h2 k (nxt L i) hkl hjl hkw hj (hkc.trans hce.symm) (by omega) (by omega)

theorem exact_from2 (L : List Nat) (hR : Ring L) (fr pl : Nat → Nat) (h : ∀ i, i < L.length → Holds L fr pl i) : MetC L pl := by
  intro i j hi hj hki hkj hc h1 h2
  have hL := hR.toLay
  have hp := prv_lt L hL j
  have hnp := nxt_prv L hL hj
  have he := getD_lt hR.small (prv L j)
  have hjn := hR.joins (prv L j) hp
  rw [hnp] at hjn
  have hm : lC (L[prv L j]?.getD 0) = false := by
    cases hm : lC (L[prv L j]?.getD 0)
    · rfl
    · have := va_new L hL hp hm
      rw [hnp, hkj, h2] at this
      cases this
  have hva := va_nxt L hL hp hm
  have hce := cell_next L hL hp hm
  rw [show (prv L j + 1) % L.length = j from hnp] at hce
  rw [hnp, hkj, h2, show b1 true = 1 from rfl] at hva
  have hH := h (prv L j) hp
  rcases edge_kinds he hm with ⟨a, b, c, d, e⟩ | ⟨a, b, c, d, e⟩ | ⟨a, b, c, d, e⟩
  · rw [e, hkj] at hjn; cases hjn
  · have := va_inj L hL hp hi d hki (hce.symm.trans hc.symm) (by omega)
    have h3 := hH.2.1 b
    rw [hnp, this] at h3
    exact h3
  · have hkp : kd L (prv L j) = false := d
    have hq := prv_lt L hL (prv L j)
    have hnq := nxt_prv L hL hp
    have heq := getD_lt hR.small (prv L (prv L j))
    have hjq := hR.joins _ hq
    rw [hnq] at hjq
    have hmq : lC (L[prv L (prv L j)]?.getD 0) = false := by
      cases hm : lC (L[prv L (prv L j)]?.getD 0)
      · rfl
      · have := va_new L hL hq hm
        rw [hnq, hkp, show b1 false = 0 from rfl] at this
        omega
    have hvq := va_nxt L hL hq hmq
    have hcq := cell_next L hL hq hmq
    rw [show (prv L (prv L j) + 1) % L.length = prv L j from hnq] at hcq
    rw [hnq, hkp, show b1 false = 0 from rfl] at hvq
    rcases edge_kinds heq hmq with ⟨a', b', c', d', e'⟩ | ⟨a', b', c', d', e'⟩ | ⟨a', b', c', d', e'⟩
    · have hf := (h _ hq).1 a'
      rw [hnq] at hf
      have h3 := hH.2.2 c (by omega)
      rw [hnp, hf, Nat.add_sub_cancel] at h3
      rwa [va_inj L hL hq hi d' hki (by rw [← hcq, ← hce, hc]) (by omega)] at h3
    · rw [e', hkp] at hjq; cases hjq
    · rw [e', hkp] at hjq; cases hjq

theorem exact_from1 (L : List Nat) (hR : Ring L) (fr pl : Nat → Nat) (hC : Choice L fr pl) (h : ∀ i, i < L.length → Holds L fr pl i) : MetR L fr := by
  intro i hi hki hlo
  have h2 := exact_from2 L hR fr pl h
  have hL := hR.toLay
  have hp := prv_lt L hL i
  have hnp := nxt_prv L hL hi
  have he := getD_lt hR.small (prv L i)
  have hjn := hR.joins (prv L i) hp
  rw [hnp] at hjn
  cases hm : lC (L[prv L i]?.getD 0)
  · rcases edge_kinds he hm with ⟨a, b, c, d, e⟩ | ⟨a, b, c, d, e⟩ | ⟨a, b, c, d, e⟩
    · have hf := (h _ hp).1 a
      rw [hnp] at hf
      have hva := va_nxt L hL hp hm
      rw [hnp, hki, show b1 false = 0 from rfl] at hva
      unfold valR
      rw [if_neg (by omega), hf, Nat.add_sub_cancel]
      omega
    · rw [e, hki] at hjn; cases hjn
    · rw [e, hki] at hjn; cases hjn
  · have hva := va_new L hL hp hm
    rw [hnp, hki, show b1 false = 0 from rfl] at hva
    unfold lone at hlo
    rw [hm, Bool.true_and] at hlo
    have he2 := getD_lt hR.small i
    have hjl := nxt_lt L hL i
    have hj2 := hR.joins i hi
    have hv2 := va_nxt L hL hi hlo
    have hce : cellOf L (nxt L i) = cellOf L i := cell_next L hL hi hlo
    have hbw : bW (L[i]?.getD 0) = false := hki
    rcases edge_kinds he2 hlo with ⟨a, b, c, d, e⟩ | ⟨a, b, c, d, e⟩ | ⟨a, b, c, d, e⟩
    · rw [d] at hbw; cases hbw
    · rw [d] at hbw; cases hbw
    · rw [e] at hj2
      rw [hj2, show b1 true = 1 from rfl] at hv2
      unfold valR
      by_cases h0 : fr i = 0
      · rw [if_pos h0, hva]
      · exfalso
        rcases hC.from_ i hi hki with h0' | ⟨k, hk, hkl, hkw, hkc⟩
        · exact h0 h0'
        · have h3 := (h i hi).2.2 c h0
          rw [hk, Nat.add_sub_cancel] at h3
          have hpos := va_pos L hL hkl hkw
          have hle := va_le L hL hkl
          have hfew := hR.few (cellOf L k)
          by_cases hk1 : vaOf L k = 1
          · have := va_inj L hL hkl hjl hkw hj2 (hkc.trans hce.symm) (by omega)
            rw [this] at h3
            exact absurd h3 (Nat.lt_irrefl _)
          · have := h2 (nxt L i) k hjl hkl hj2 hkw (hce.trans hkc.symm) (by omega) (by omega)
            omega

/-- what is claimed is seen exactly if the cycle was gone round -/
theorem exact_core (L : List Nat) (hR : Ring L) (fr pl : Nat → Nat) (hC : Choice L fr pl) : (MetR L fr ∧ MetC L pl) ↔ ∀ i, i < L.length → Holds L fr pl i :=
  ⟨fun h => exact_to L hR fr pl hC h.1 h.2, fun h => ⟨exact_from1 L hR fr pl hC h, exact_from2 L hR fr pl h⟩⟩

/-- the cell of a lone read has no write -/
theorem lone_none (L : List Nat) (hL : Lay L) {i j : Nat} (hi : i < L.length) (hj : j < L.length) (hlo : lone L i = true) (hk : kd L i = false) (hkj : kd L j = true) : cellOf L j ≠ cellOf L i := by
  intro hc
  unfold lone at hlo
  rw [Bool.and_eq_true] at hlo
  have hi0 : i ≠ 0 := by
    intro h
    subst h
    have := hlo.1
    unfold prv at this
    rw [Nat.zero_add, Nat.mod_eq_of_lt (by omega), hL.last] at this
    cases this
  have ho : Opn L i := by
    refine ⟨by omega, hi, ?_⟩
    have := hlo.1
    unfold prv at this
    rw [show i + L.length - 1 = (i - 1) + L.length from by omega, Nat.add_mod_right, Nat.mod_eq_of_lt (by omega)] at this
    exact this
  obtain ⟨s, k, ho', hk', rfl⟩ := at_row L hL j hj
  rw [cell_run L hL s k ho'.2.1 hk'] at hc
  have := opn_one L ho' ho hc
  subst this
  have hr : runE L s = 0 := by
    apply Nat.eq_zero_of_not_pos
    intro hpos
    have := runE_step L s 0 hpos
    rw [Nat.add_zero, Nat.mod_eq_of_lt hi, hlo.2] at this
    cases this
  have : k = 0 := by omega
  subst this
  rw [Nat.add_zero, Nat.mod_eq_of_lt hi, hk] at hkj
  cases hkj

/-- two choices that meet the claims of the reads give them the same -/
theorem one_from (L : List Nat) (hR : Ring L) (fr fr' pl pl' : Nat → Nat) (hC : Choice L fr pl) (hC' : Choice L fr' pl') (h : MetR L fr) (h' : MetR L fr') (i : Nat) (hi : i < L.length) (hk : kd L i = false) : fr i = fr' i := by
  have hL := hR.toLay
  cases hlo : lone L i
  · have a := h i hi hk hlo
    have b := h' i hi hk hlo
    rcases hC.from_ i hi hk with h0 | ⟨j, hj, hjl, hjw, hjc⟩
    · rcases hC'.from_ i hi hk with h0' | ⟨j', hj', hjl', hjw', hjc'⟩
      · rw [h0, h0']
      · have := va_pos L hL hjl' hjw'
        unfold valR at a b
        rw [if_pos h0] at a
        rw [if_neg (by omega), hj', Nat.add_sub_cancel] at b
        omega
    · rcases hC'.from_ i hi hk with h0' | ⟨j', hj', hjl', hjw', hjc'⟩
      · have := va_pos L hL hjl hjw
        unfold valR at a b
        rw [if_pos h0'] at b
        rw [if_neg (by omega), hj, Nat.add_sub_cancel] at a
        omega
      · unfold valR at a b
        rw [if_neg (by omega), hj', Nat.add_sub_cancel] at b
        rw [if_neg (by omega), hj, Nat.add_sub_cancel] at a
        rw [hj, hj', va_inj L hL hjl hjl' hjw hjw' (hjc.trans hjc'.symm) (a.trans b.symm)]
  · have key : ∀ f p, Choice L f p → f i = 0 := by
      intro f p hc
      rcases hc.from_ i hi hk with h0 | ⟨j, hj, hjl, hjw, hjc⟩
      · exact h0
      · exact absurd hjc (lone_none L hL hi hjl hlo hk hjw)
    rw [key fr pl hC, key fr' pl' hC']

end Go.Proofs.YtokfiflflcfidabDoor
