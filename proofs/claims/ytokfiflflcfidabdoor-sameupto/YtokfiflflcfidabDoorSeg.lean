import Derived.Test.YtokfiflflcfidabDoorCells
namespace Go.Proofs.YtokfiflflcfidabDoor
open Go.RowKit

/-- the edges, begun behind one to another thread, with cells -/
structure Lay (L : List Nat) : Prop where
  pos : 0 < L.length
  last : lC (L[L.length - 1]?.getD 0) = false
  some : 0 < L.countP lC

def cntC (L : List Nat) (i : Nat) : Nat := (L.take i).countP lC
def cellOf (L : List Nat) (i : Nat) : Nat := cntC L i % L.countP lC

theorem cntC_succ (L : List Nat) (i : Nat) (h : i < L.length) : cntC L (i + 1) = cntC L i + b1 (lC (L[i]?.getD 0)) := countP_take_succ lC L i h
theorem cntC_le (L : List Nat) (i : Nat) : cntC L i ≤ L.countP lC := (List.take_sublist i L).countP_le
theorem cntC_all (L : List Nat) : cntC L L.length = L.countP lC := by unfold cntC; rw [List.take_length]
theorem cntC_mono (L : List Nat) {i j : Nat} (h : i ≤ j) : cntC L i ≤ cntC L j := by
  unfold cntC
  have : L.take i = (L.take j).take i := by rw [List.take_take, Nat.min_eq_left h]
  rw [this]
  exact (List.take_sublist i _).countP_le

theorem cell_next (L : List Nat) (_hL : Lay L) {i : Nat} (hi : i < L.length) (hm : lC (L[i]?.getD 0) = false) : cellOf L ((i + 1) % L.length) = cellOf L i := by
  have h1 : cntC L (i + 1) = cntC L i := by
    have := cntC_succ L i hi
    rw [hm] at this
    simpa [b1] using this
  unfold cellOf
  by_cases hl : i + 1 = L.length
  · rw [hl, Nat.mod_self]
    rw [hl, cntC_all] at h1
    rw [← h1, Nat.mod_self]
    simp [cntC]
  · rw [Nat.mod_eq_of_lt (by omega : i + 1 < L.length), h1]

/-- event s is the first of its cell -/
def Opn (L : List Nat) (s : Nat) : Prop := 1 ≤ s ∧ s < L.length ∧ lC (L[s - 1]?.getD 0) = true

theorem opn_one (L : List Nat) {s t : Nat} (hs : Opn L s) (ht : Opn L t) (hc : cellOf L s = cellOf L t) : s = t := by
  have key : ∀ s t, Opn L s → Opn L t → s < t → cellOf L s = cellOf L t → False := by
    intro s t hs ht hlt hc
    have a1 := cntC_succ L (s - 1) (by have := hs.2.1; have := hs.1; omega)
    have a2 := cntC_succ L (t - 1) (by have := ht.2.1; have := ht.1; omega)
    rw [show s - 1 + 1 = s from by have := hs.1; omega, hs.2.2] at a1
    rw [show t - 1 + 1 = t from by have := ht.1; omega, ht.2.2] at a2
    have a3 := cntC_mono L (show s ≤ t - 1 by omega)
    have a4 := cntC_le L t
    have : b1 true = 1 := rfl
    unfold cellOf at hc
    generalize L.countP lC = C at *
    rw [Nat.mod_eq_of_lt (show cntC L s < C by omega)] at hc
    by_cases h : cntC L t = C
    · rw [h, Nat.mod_self] at hc; omega
    · rw [Nat.mod_eq_of_lt (by omega)] at hc; omega
  rcases Nat.lt_trichotomy s t with h | h | h
  · exact absurd (key s t hs ht h hc) id
  · exact h
  · exact absurd (key t s ht hs h hc.symm) id

/-- from event s: how many edges till one to another cell -/
def runE (L : List Nat) (s : Nat) : Nat := firstNo (fun m => !lC (L[(s + m) % L.length]?.getD 0)) L.length

theorem runE_step (L : List Nat) (s m : Nat) (h : m < runE L s) : lC (L[(s + m) % L.length]?.getD 0) = false := by
  have := firstNo_yes (fun m => !lC (L[(s + m) % L.length]?.getD 0)) L.length m h
  simpa using this
theorem runE_end (L : List Nat) (s : Nat) (h : runE L s < L.length) : lC (L[(s + runE L s) % L.length]?.getD 0) = true := by
  have := firstNo_no (fun m => !lC (L[(s + m) % L.length]?.getD 0)) L.length h
  have h2 : (!lC (L[(s + runE L s) % L.length]?.getD 0)) = false := this
  simpa using h2
theorem some_moving (L : List Nat) (hL : Lay L) : ∃ q, q < L.length ∧ lC (L[q]?.getD 0) = true := by
  obtain ⟨x, hx, hcx⟩ := List.countP_pos_iff.1 hL.some
  obtain ⟨i, hi, rfl⟩ := List.getElem_of_mem hx
  exact ⟨i, hi, by simpa [hi] using hcx⟩
theorem runE_lt (L : List Nat) (hL : Lay L) (n : Nat) : runE L n < L.length := by
  obtain ⟨i, hi, hc⟩ := some_moving L hL
  apply (firstNo_lt _ _).2
  refine ⟨(i + L.length - n % L.length) % L.length, Nat.mod_lt _ hL.pos, ?_⟩
  have hn := Nat.mod_lt n hL.pos
  have e1 : (n + (i + L.length - n % L.length) % L.length) % L.length = i := by
    rw [Nat.add_mod_mod, ← Nat.mod_add_mod, show n % L.length + (i + L.length - n % L.length) = i + L.length from by omega, Nat.add_mod_right, Nat.mod_eq_of_lt hi]
  simp only [e1, hc]; rfl

theorem mod_next (n a : Nat) : (a % n + 1) % n = (a + 1) % n := Nat.mod_add_mod _ _ _

theorem cell_run (L : List Nat) (hL : Lay L) (s k : Nat) (hs : s < L.length) (hk : k ≤ runE L s) : cellOf L ((s + k) % L.length) = cellOf L s := by
  induction k with
  | zero => rw [Nat.add_zero, Nat.mod_eq_of_lt hs]
  | succ k ih =>
    have h1 := ih (by omega)
    have h2 := cell_next L hL (Nat.mod_lt (s + k) hL.pos) (runE_step L s k (by omega))
    rw [mod_next] at h2
    rw [← Nat.add_assoc, h2, h1]

/-- every event stands in the row of some cell's first event -/
theorem at_row (L : List Nat) (hL : Lay L) (j : Nat) (hj : j < L.length) : ∃ s k, Opn L s ∧ k ≤ runE L s ∧ j = (s + k) % L.length := by
  obtain ⟨q, hq, hcq⟩ := some_moving L hL
  have hq1 : q + 1 < L.length := by
    by_cases h : q + 1 = L.length
    · have := hL.last; rw [← h, show q + 1 - 1 = q from by omega, hcq] at this; cases this
    · omega
  have key : ∀ t, ∃ s k, Opn L s ∧ k ≤ runE L s ∧ (q + 1 + t) % L.length = (s + k) % L.length := by
    intro t
    induction t with
    | zero => exact ⟨q + 1, 0, ⟨by omega, hq1, by simpa using hcq⟩, Nat.zero_le _, rfl⟩
    | succ t ih =>
      obtain ⟨s, k, h1, h2, h3⟩ := ih
      by_cases hm : lC (L[(s + k) % L.length]?.getD 0) = true
      · have hx := Nat.mod_lt (s + k) hL.pos
        have hx1 : (s + k) % L.length + 1 < L.length := by
          by_cases h : (s + k) % L.length + 1 = L.length
          · have := hL.last; rw [← h, show (s + k) % L.length + 1 - 1 = (s + k) % L.length from by omega, hm] at this; cases this
          · omega
        refine ⟨(s + k) % L.length + 1, 0, ⟨by omega, hx1, by simpa using hm⟩, Nat.zero_le _, ?_⟩
        rw [← Nat.add_assoc, ← mod_next, h3]
      · have hlt := runE_lt L hL s
        have hne : k ≠ runE L s := by
          intro h; rw [h] at hm; exact hm (runE_end L s hlt)
        refine ⟨s, k + 1, h1, by omega, ?_⟩
        rw [← Nat.add_assoc, ← Nat.add_assoc, ← mod_next, h3, mod_next]
  obtain ⟨s, k, h1, h2, h3⟩ := key (j + L.length - (q + 1))
  refine ⟨s, k, h1, h2, ?_⟩
  rw [← h3, show q + 1 + (j + L.length - (q + 1)) = j + L.length from by omega, Nat.add_mod_right, Nat.mod_eq_of_lt hj]

/-- the events whose values are not yet told -/
def ev1 (L : List Nat) : List Ev := evsTo L (L.countP lC) L.length
theorem ev1_length (L : List Nat) : (ev1 L).length = L.length := evsTo_length _ _ _
theorem ev1_at (L : List Nat) (i : Nat) (h : i < L.length) : (ev1 L)[i]?.getD ev0 = evS L (L.countP lC) i := by
  simp [ev1, evsTo, h]
theorem ev1_af (L : List Nat) (i : Nat) (h : i < L.length) : afOf (ev1 L) i = L[i]?.getD 0 := by
  unfold afOf; rw [ev1_at L i h]; rfl

theorem firstNo_congr (p q : Nat → Bool) (n : Nat) (h : ∀ i, i < n → p i = q i) : firstNo p n = firstNo q n := by
  induction n with
  | zero => rfl
  | succ n ih => simp only [firstNo]; rw [ih (fun i hi => h i (by omega)), h n (by omega)]

theorem runLen_eq (L : List Nat) (hL : Lay L) (s : Nat) : runLen (ev1 L) s = runE L s := by
  unfold runLen runE
  rw [ev1_length]
  exact firstNo_congr _ _ _ fun i _ => by rw [ev1_af L _ (Nat.mod_lt _ hL.pos)]
theorem opens_eq (L : List Nat) (hL : Lay L) (c s : Nat) (hs : s < L.length) : opens (ev1 L) c s = true ↔ Opn L s ∧ cellOf L s = c := by
  unfold opens
  rw [ev1_length, ev1_at L s hs, ev1_af L _ (Nat.mod_lt _ hL.pos)]
  simp only [evS, Bool.and_eq_true, beq_iff_eq]
  have : (L.take s).countP lC % L.countP lC = cellOf L s := rfl
  rw [this]
  by_cases h0 : s = 0
  · subst h0
    rw [Nat.zero_add, Nat.mod_eq_of_lt (by omega), hL.last]
    simp [Opn]
  · rw [show s + L.length - 1 = (s - 1) + L.length from by omega, Nat.add_mod_right, Nat.mod_eq_of_lt (by omega)]
    unfold Opn
    constructor
    · rintro ⟨h1, h2⟩; exact ⟨⟨by omega, hs, h2⟩, h1⟩
    · rintro ⟨⟨_, _, h2⟩, h1⟩; exact ⟨h1, h2⟩

theorem chTo_eq (L : List Nat) (hL : Lay L) (s : Nat) (ho : Opn L s) (k : Nat) (hk : k ≤ L.length) :
    chTo (ev1 L) (cellOf L s) k = if s < k then segTo L.length s (runE L s + 1) else [] := by
  induction k with
  | zero => rfl
  | succ k ih =>
    rw [chTo, ih (by omega)]
    by_cases hks : k = s
    · subst hks
      rw [if_neg (Nat.lt_irrefl k), if_pos ((opens_eq L hL _ _ ho.2.1).2 ⟨ho, rfl⟩), if_pos (Nat.lt_succ_self k), ev1_length, runLen_eq L hL]; rfl
    · rw [if_neg (c := opens (ev1 L) (cellOf L s) k = true)]
      · by_cases h : s < k
        · rw [if_pos h, if_pos (by omega), List.append_nil]
        · rw [if_neg h, if_neg (by omega)]; rfl
      · intro h
        have := (opens_eq L hL _ _ (by omega)).1 h
        exact hks (opn_one L this.1 ho this.2)
theorem chTo_none (L : List Nat) (hL : Lay L) (c : Nat) (h : ∀ s, Opn L s → cellOf L s ≠ c) (k : Nat) (hk : k ≤ L.length) : chTo (ev1 L) c k = [] := by
  induction k with
  | zero => rfl
  | succ k ih =>
    rw [chTo, ih (by omega), if_neg]
    · rfl
    · intro ho
      have := (opens_eq L hL _ _ (by omega)).1 ho
      exact h k this.1 this.2
theorem chain_at (L : List Nat) (hL : Lay L) (s : Nat) (ho : Opn L s) : chain (ev1 L) (cellOf L s) = segTo L.length s (runE L s + 1) := by
  unfold chain
  rw [ev1_length, chTo_eq L hL s ho _ (Nat.le_refl _), if_pos ho.2.1]
theorem chain_cell (L : List Nat) (hL : Lay L) (c x : Nat) (hx : x ∈ chain (ev1 L) c) : cellOf L x = c := by
  by_cases h : ∃ s, Opn L s ∧ cellOf L s = c
  · obtain ⟨s, ho, rfl⟩ := h
    rw [chain_at L hL s ho] at hx
    simp only [segTo, List.mem_map, List.mem_range] at hx
    obtain ⟨k, hk, rfl⟩ := hx
    exact cell_run L hL s k ho.2.1 (by omega)
  · unfold chain at hx
    rw [ev1_length, chTo_none L hL c (fun s ho he => h ⟨s, ho, he⟩) _ (Nat.le_refl _)] at hx
    cases hx

theorem seg_inj (n s : Nat) {i j : Nat} (hi : i < n) (hj : j < n) (h : (s + i) % n = (s + j) % n) : i = j := by
  have h1 := mod_shift n i j s hj
  rw [show i + s = s + i from Nat.add_comm _ _, show j + s = s + j from Nat.add_comm _ _, h, beq_self_eq_true] at h1
  have h2 : i % n = j := by simpa using h1.symm
  rw [Nat.mod_eq_of_lt hi] at h2
  exact h2
theorem seg_nodup (n s m : Nat) (hm : m ≤ n) : (segTo n s m).Nodup := by
  induction m with
  | zero => simp [segTo]
  | succ m ih =>
    rw [segTo_succ, List.nodup_append]
    refine ⟨ih (by omega), by simp, ?_⟩
    intro a ha b hb
    simp only [List.mem_singleton] at hb
    subst hb
    simp only [segTo, List.mem_map, List.mem_range] at ha
    obtain ⟨k, hk, rfl⟩ := ha
    intro h
    have := seg_inj n s (show k < n by omega) (show m < n by omega) h
    omega

/-- how many of the first p events of ch write -/
def cw (l : List Ev) (ch : List Nat) (p : Nat) : Nat := (ch.take p).countP fun i => (l[i]?.getD ev0).wr

theorem cw_succ (l : List Ev) (ch : List Nat) (p : Nat) (h : p < ch.length) : cw l ch (p + 1) = cw l ch p + if (l[ch[p]?.getD 0]?.getD ev0).wr then 1 else 0 := by
  unfold cw; rw [take_snoc ch p h, List.countP_append]; simp [List.countP_cons]

theorem val_at (l : List Ev) (ch : List Nat) (hnd : ch.Nodup) (hlt : ∀ x ∈ ch, x < l.length) (k : Nat) (hk : k ≤ ch.length) :
    (∀ p, p < k → (valTo l ch k).1[ch[p]?.getD 0]?.getD ev0 = { l[ch[p]?.getD 0]?.getD ev0 with va := cw l ch (p + 1), lo := !(l[ch[p]?.getD 0]?.getD ev0).wr && ch.length == 1 }) ∧
    (∀ i, i ∉ ch.take k → (valTo l ch k).1[i]? = l[i]?) ∧ (valTo l ch k).2 = cw l ch k := by
  induction k with
  | zero => exact ⟨fun p hp => absurd hp (by omega), fun i _ => rfl, rfl⟩
  | succ k ih =>
    obtain ⟨h1, h2, h3⟩ := ih (by omega)
    have hkl : k < ch.length := by omega
    have hmem : ch[k]?.getD 0 ∈ ch := by simp [hkl]
    have hnot : ch[k]?.getD 0 ∉ ch.take k := by
      have : (ch.take (k + 1)).Nodup := List.Sublist.nodup (List.take_sublist _ _) hnd
      rw [take_snoc ch k hkl, List.nodup_append] at this
      intro h
      exact this.2.2 _ h _ (List.mem_singleton.2 rfl) rfl
    have hsame : (valTo l ch k).1[ch[k]?.getD 0]? = l[ch[k]?.getD 0]? := h2 _ hnot
    have hlen : (valTo l ch k).1.length = l.length := (Stat.val l ch k).1
    rw [valTo_succ l ch k hkl]
    refine ⟨fun p hp => ?_, fun i hi => ?_, ?_⟩
    · by_cases hpk : p = k
      · subst hpk
        simp only [putV]
        rw [List.getElem?_set_self (by rw [hlen]; exact hlt _ hmem), hsame, h3, cw_succ l ch p hkl]
        rfl
      · have hne : ch[k]?.getD 0 ≠ ch[p]?.getD 0 := by
          intro h
          apply hnot
          rw [h]
          have hpl : p < ch.length := by omega
          have : ch[p]?.getD 0 = (ch.take k)[p]'(by simp; omega) := by simp [hpl]
          rw [this]
          exact List.getElem_mem _
        simp only [putV]
        rw [List.getElem?_set_ne hne]
        exact h1 p (by omega)
    · rw [take_snoc ch k hkl, List.mem_append, List.mem_singleton] at hi
      simp only [putV]
      rw [List.getElem?_set_ne (fun h => hi (Or.inr h.symm))]
      exact h2 i (fun h => hi (Or.inl h))
    · simp only [putV]
      rw [hsame, h3, cw_succ l ch k hkl]

theorem chain_stat {a b : List Ev} (h : Stat a b) (c : Nat) : chain b c = chain a c := by
  have haf : ∀ i, afOf b i = afOf a i := fun i => (h.2 i).2.2.2
  have hr : ∀ i, runLen b i = runLen a i := by
    intro i; unfold runLen; rw [h.1]; exact firstNo_congr _ _ _ fun m _ => by rw [haf]
  have ho : ∀ i, opens b c i = opens a c i := by
    intro i; unfold opens; rw [h.1, haf, (h.2 i).2.2.1]
  have key : ∀ k, chTo b c k = chTo a c k := by
    intro k
    induction k with
    | zero => rfl
    | succ k ih => rw [chTo, chTo, ih, ho, hr, h.1]
  unfold chain
  rw [h.1, key]
theorem cw_stat {a b : List Ev} (h : Stat a b) (ch : List Nat) (p : Nat) : cw b ch p = cw a ch p := by
  unfold cw
  congr 1
  funext i
  exact (h.2 i).1

/-- how many of the events s, s + 1 .. (k of them) write -/
def sw (L : List Nat) (s k : Nat) : Nat := (List.range k).countP fun m => bW (L[(s + m) % L.length]?.getD 0)
theorem sw_succ (L : List Nat) (s k : Nat) : sw L s (k + 1) = sw L s k + b1 (bW (L[(s + k) % L.length]?.getD 0)) := by
  unfold sw b1; rw [List.range_succ, List.countP_append]; simp [List.countP_cons]
theorem sw_mono (L : List Nat) (s : Nat) {i j : Nat} (h : i ≤ j) : sw L s i ≤ sw L s j := by
  induction j with
  | zero => have : i = 0 := by omega
            subst this; exact Nat.le_refl _
  | succ j ih =>
    rw [sw_succ]
    by_cases hij : i = j + 1
    · subst hij; rw [sw_succ]; exact Nat.le_refl _
    · have := ih (by omega); omega
theorem cw_sw (L : List Nat) (hL : Lay L) (s m p : Nat) (hp : p ≤ m) : cw (ev1 L) (segTo L.length s m) p = sw L s p := by
  induction p with
  | zero => rfl
  | succ p ih =>
    have hseg : (segTo L.length s m)[p]?.getD 0 = (s + p) % L.length := by simp [segTo, show p < m from by omega]
    rw [cw_succ _ _ _ (by rw [segTo_length]; omega), ih (by omega), sw_succ, hseg, ev1_at L _ (Nat.mod_lt _ hL.pos)]
    rfl

theorem cell_val (L : List Nat) (hL : Lay L) (c : Nat) : ∀ s k, Opn L s → k ≤ runE L s →
    (cellTo (ev1 L) c)[(s + k) % L.length]?.getD ev0 =
      if cellOf L s < c then { evS L (L.countP lC) ((s + k) % L.length) with va := sw L s (k + 1), lo := !bW (L[(s + k) % L.length]?.getD 0) && runE L s == 0 }
      else evS L (L.countP lC) ((s + k) % L.length) := by
  induction c with
  | zero => intro s k _ _; rw [if_neg (by omega)]; exact ev1_at L _ (Nat.mod_lt _ hL.pos)
  | succ c ih =>
    intro s k ho hk
    have hj := Nat.mod_lt (s + k) hL.pos
    have hst := Stat.cell (ev1 L) c
    have hch : chain (cellTo (ev1 L) c) c = chain (ev1 L) c := chain_stat hst c
    rw [cellTo, hch]
    by_cases hc : cellOf L s = c
    · subst hc
      have hlt := runE_lt L hL s
      rw [if_pos (by omega), chain_at L hL s ho]
      have hlen : (segTo L.length s (runE L s + 1)).length = runE L s + 1 := segTo_length _ _ _
      have hv := val_at (cellTo (ev1 L) (cellOf L s)) (segTo L.length s (runE L s + 1)) (seg_nodup _ _ _ (by omega))
        (by
          intro x hx
          rw [hst.1, ev1_length]
          simp only [segTo, List.mem_map] at hx
          obtain ⟨m, _, rfl⟩ := hx
          exact Nat.mod_lt _ hL.pos) _ (Nat.le_refl _)
      have h1 := hv.1 k (by rw [hlen]; omega)
      have hseg : (segTo L.length s (runE L s + 1))[k]?.getD 0 = (s + k) % L.length := by simp [segTo, show k < runE L s + 1 from by omega]
      rw [hseg] at h1
      rw [h1, ih s k ho hk, if_neg (by omega), cw_stat hst, cw_sw L hL s _ _ (by omega), hlen]
      have : (runE L s + 1 == 1) = (runE L s == 0) := by rw [Bool.eq_iff_iff, beq_iff_eq, beq_iff_eq]; omega
      rw [this]
      rfl
    · have hnot : (s + k) % L.length ∉ chain (ev1 L) c := by
        intro h
        have := chain_cell L hL c _ h
        rw [cell_run L hL s k ho.2.1 hk] at this
        exact hc this
      have hv : ((valTo (cellTo (ev1 L) c) (chain (ev1 L) c) (chain (ev1 L) c).length).1)[(s + k) % L.length]? = (cellTo (ev1 L) c)[(s + k) % L.length]? := by
        by_cases h : ∃ s', Opn L s' ∧ cellOf L s' = c
        · obtain ⟨s', ho', he'⟩ := h
          have hlt := runE_lt L hL s'
          have hnd : (chain (ev1 L) c).Nodup := by rw [← he', chain_at L hL s' ho']; exact seg_nodup _ _ _ (by omega)
          have := (val_at (cellTo (ev1 L) c) (chain (ev1 L) c) hnd (by
            intro x hx
            rw [hst.1]
            exact mem_chTo _ c _ (by rw [ev1_length]; exact hL.pos) x hx) _ (Nat.le_refl _)).2.1 ((s + k) % L.length) (by rw [List.take_length]; exact hnot)
          exact this
        · have : chain (ev1 L) c = [] := by
            unfold chain
            rw [ev1_length]
            exact chTo_none L hL c (fun s ho he => h ⟨s, ho, he⟩) _ (Nat.le_refl _)
          rw [this]; rfl
      rw [hv, ih s k ho hk]
      by_cases h : cellOf L s < c
      · rw [if_pos h, if_pos (by omega)]
      · rw [if_neg h, if_neg (by omega)]

end Go.Proofs.YtokfiflflcfidabDoor
