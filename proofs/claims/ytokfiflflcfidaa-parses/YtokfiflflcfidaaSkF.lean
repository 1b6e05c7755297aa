import Derived.Test.YtokfiflflcfidaaSkM
import Derived.Test.YtokfiflflcfidaaPsE
namespace Go.Proofs.Ytokfiflflcfidaa
open Go.RowKit

theorem thrs_atR (L : List (List UInt8)) (k m : Nat) (hm : m < (thrs k L).length) : m < L.length ∧ k + m < 16 ∧ thrB (k + m) (L[m]?.getD []) = true ∧ (thrs k L)[m]?.getD [] = thrR (k + m) (L[m]?.getD []) := by
  induction L generalizing k m with
  | nil => simp [thrs] at hm
  | cons x xs ih =>
    by_cases hx : k < 16 ∧ thrB k x = true
    · have he : thrs k (x :: xs) = thrR k x :: thrs (k + 1) xs := if_pos hx
      rw [he] at hm ⊢
      cases m with
      | zero => exact ⟨by simp, by omega, by simpa using hx.2, by simp⟩
      | succ m =>
        obtain ⟨h1, h2, h3, h4⟩ := ih (k + 1) m (by simpa using hm)
        refine ⟨by simp; exact h1, by omega, ?_, ?_⟩
        · rw [show k + (m + 1) = k + 1 + m by omega]; simpa using h3
        · rw [show k + (m + 1) = k + 1 + m by omega]; simpa using h4
    · rw [show thrs k (x :: xs) = [] from if_neg hx] at hm
      simp at hm
theorem thr_snd {k : Nat} {x : List UInt8} (h : thrB k x = true) : sndRow (thrR k x) = true := by
  unfold thrB at h
  rw [Bool.and_eq_true] at h
  unfold thrR
  rw [if_pos h.1]
  exact h.2
theorem lnL_back {k : Nat} {x : List UInt8} (h : thrB k x = true) : lnL k (thrR k x) = x := by
  unfold thrB at h
  rw [Bool.and_eq_true] at h
  unfold thrR lnL
  rw [if_pos h.1]
  have h1 := h.1
  unfold thB at h1
  rw [Bool.and_eq_true, beq_iff_eq, List.all_eq_true] at h1
  have hm : (thL (spS 32 x)).map wordL = (spS 32 x).drop 1 := by
    unfold thL
    rw [List.map_map]
    conv => rhs; rw [← List.map_id ((spS 32 x).drop 1)]
    exact List.map_congr_left fun y hy => (ins_snd (h1.2 y hy)).2
  rw [hm]
  have hj := spR_join 32 x
  rw [spS_spR] at h1 ⊢
  obtain ⟨p, r, hp⟩ := spR_ne 32 x
  rw [hp] at hj h1 ⊢
  have h0 : p = headL k := by simpa using h1.1
  rw [← h0]
  simpa using hj
theorem wnt_snd {n : Nat} {x : List UInt8} (h : wntB n x = true) : sndW n (wntR x) = true := by
  unfold wntB at h
  rw [Bool.and_eq_true] at h
  unfold wntR
  rw [if_pos h.1]
  exact h.2
theorem lnW_back {n : Nat} (hn : n ≤ 16) {x : List UInt8} (h : wntB n x = true) : lnW (wntR x) = x := by
  unfold wntB at h
  rw [Bool.and_eq_true] at h
  unfold wntR lnW
  rw [if_pos h.1]
  have h1 := h.1
  have h2 := h.2
  unfold wtB at h1
  unfold sndW at h2
  rw [Bool.and_eq_true, beq_iff_eq, List.all_eq_true] at h1
  rw [Bool.and_eq_true, List.all_eq_true] at h2
  have hm : (wtL (spS 32 x)).map wishL = (spS 32 x).drop 1 := by
    unfold wtL
    rw [List.map_map]
    conv => rhs; rw [← List.map_id ((spS 32 x).drop 1)]
    exact List.map_congr_left fun y hy => (clm_back (h1.2 y hy)).1 n hn (h2.2 _ (List.mem_map.2 ⟨y, hy, rfl⟩))
  rw [hm]
  have hj := spR_join 32 x
  rw [spS_spR] at h1 ⊢
  obtain ⟨p, r, hp⟩ := spR_ne 32 x
  rw [hp] at hj h1 ⊢
  have h0 : p = wnH := by simpa using h1.1
  rw [← h0]
  simpa using hj
theorem opens_ends (c : UInt8) (xs : List (List UInt8)) : opens c (xs ++ [[]]) = c :: ends c xs := by
  induction xs with
  | nil => rfl
  | cons y ys ih => simp [opens, ends, ih]
theorem ext_getD {a b : List (List UInt8)} (hl : a.length = b.length) (h : ∀ i, i < a.length → a[i]?.getD [] = b[i]?.getD []) : a = b := by
  apply List.ext_getElem hl
  intro i h1 h2
  have := h i h1
  rw [List.getElem?_eq_getElem h1, List.getElem?_eq_getElem h2] at this
  exact this
theorem psC_len (l : List UInt8) : (psC l).length ≤ 16 := by
  have := thrs_len (((spS 10 l).take (psN l)).drop 1) 0 (by omega)
  unfold psC
  omega
/-- what is read is sound -/
theorem ps_sound {l : List UInt8} (h : psOk l = true) : sndT (psNm l) (psC l) (psW l) = true := by
  unfold psOk at h
  simp only [Bool.and_eq_true, decide_eq_true_eq] at h
  obtain ⟨⟨⟨⟨⟨⟨h1, h2⟩, h3⟩, h4⟩, h5⟩, h6⟩, h7⟩ := h
  rw [sndT_eq]
  simp only [Bool.and_eq_true, decide_eq_true_eq]
  refine ⟨⟨⟨?_, h4, psC_len l⟩, ?_⟩, wnt_snd h5⟩
  · unfold nmB at h2
    rw [Bool.and_eq_true] at h2
    unfold psNm nmR
    rw [if_pos h2.1]
    exact h2.2
  · rw [List.all_eq_true]
    intro r hr
    obtain ⟨m, hm, rfl⟩ := List.getElem_of_mem hr
    obtain ⟨_, _, k3, k4⟩ := thrs_atR _ 0 m hm
    have : (psC l)[m] = thrR (0 + m) ((((spS 10 l).take (psN l)).drop 1)[m]?.getD []) := by
      rw [← k4]
      show _ = (psC l)[m]?.getD []
      rw [List.getElem?_eq_getElem hm]
      rfl
    rw [this]
    exact thr_snd k3
/-- and written as it was -/
theorem print_ps {l : List UInt8} (h : psOk l = true) : printL (psNm l) (psC l) (psW l) = l := by
  unfold psOk at h
  simp only [Bool.and_eq_true, decide_eq_true_eq, beq_iff_eq] at h
  obtain ⟨⟨⟨⟨⟨⟨h1, h2⟩, h3⟩, h4⟩, h5⟩, h6⟩, h7⟩ := h
  have hpl : (spS 10 l).length = psN l + 1 := by have := (spS_len 10 l).1; unfold psN; omega
  have hps : spS 10 l = linesL (psNm l) (psC l) (psW l) ++ [[]] := by
    have hll : (linesL (psNm l) (psC l) (psW l)).length = (psC l).length + 2 := by simp [linesL, lns_len]
    refine ext_getD (by rw [List.length_append, hll, hpl]; simp; omega) fun i hi => ?_
    by_cases hl : i = (psC l).length + 2
    · subst hl
      rw [show (psC l).length + 2 = psN l by omega, h7, List.getElem?_append_right (by omega), hll]
      simp [show psN l - ((psC l).length + 2) = 0 by omega]
    · rw [List.getElem?_append_left (by omega)]
      unfold linesL
      by_cases h0 : i = 0
      · subst h0
        unfold nmB nmOk at h2
        rw [Bool.and_eq_true, beq_iff_eq] at h2
        have : psNm l = ((spS 10 l)[0]?.getD []).drop 7 := by
          unfold psNm nmR nmOk
          rw [if_pos (beq_iff_eq.2 h2.1)]
        simp only [List.getElem?_cons_zero, Option.getD_some]
        rw [this]
        conv => lhs; rw [← List.take_append_drop 7 ((spS 10 l)[0]?.getD []), h2.1]
      · obtain ⟨k, rfl⟩ : ∃ k, i = k + 1 := ⟨i - 1, by omega⟩
        rw [List.getElem?_cons_succ]
        by_cases hk : k < (psC l).length
        · rw [List.getElem?_append_left (by rw [lns_len]; exact hk), lns_at _ hk]
          obtain ⟨k1, k2, k3, k4⟩ := thrs_atR _ 0 k hk
          rw [Nat.zero_add] at k3 k4
          have e : (psC l)[k]?.getD [] = thrR k ((((spS 10 l).take (psN l)).drop 1)[k]?.getD []) := k4
          rw [e, lnL_back k3, List.getElem?_drop, List.getElem?_take_of_lt (by rw [List.length_drop, List.length_take] at k1; omega), Nat.add_comm]
        · have hkc : k = (psC l).length := by omega
          subst hkc
          rw [List.getElem?_append_right (by rw [lns_len]; exact Nat.le_refl _), lns_len, Nat.sub_self]
          simp only [List.getElem?_cons_zero, Option.getD_some]
          unfold psW
          rw [lnW_back (psC_len l) h5, Nat.add_comm]
  rw [printL_ends]
  have hj := spR_join 10 l
  rw [← spS_spR, hps] at hj
  unfold linesL at hj ⊢
  rw [List.cons_append, List.headD_cons, List.tail_cons, opens_ends] at hj
  exact hj

end Go.Proofs.Ytokfiflflcfidaa
