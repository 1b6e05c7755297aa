import Derived.Test.YtokfiflflcfidabDoorHapM
import Derived.Test.YtokfiflflcfidabDoorRingM
namespace Go.Proofs.YtokfiflflcfidabDoor
open Go.RowKit

theorem clm_eq (L : List Nat) (hR : Ring L) (i : Nat) (hi : i < L.length) : clm L i = (!kd L i && !lone L i) := claimed_eq L hR i hi

/-- the event that an event's edge goes forward to: behind a read of the thread's own store, the one behind it -/
def fwd (L : List Nat) (i : Nat) : Nat := if L[i]?.getD 0 = 13 then nxt L (nxt L i) else nxt L i

theorem in_thread (L : List Nat) (hlT : lT (L[L.length - 1]?.getD 0) = true) {i : Nat} (hi : i < L.length) (h : lT (L[i]?.getD 0) = false) : i + 1 < L.length ∧ nxt L i = i + 1 ∧ thrOf L (i + 1) = thrOf L i := by
  have hne : i + 1 ≠ L.length := by
    intro e
    rw [← e, show i + 1 - 1 = i from by omega, h] at hlT
    cases hlT
  have hs := thr_succ L i hi
  rw [h] at hs
  exact ⟨by omega, Nat.mod_eq_of_lt (by omega), by simpa [b1] using hs⟩
theorem out_thread (L : List Nat) (hT2 : 2 ≤ L.countP lT) {i : Nat} (hi : i < L.length) (h : lT (L[i]?.getD 0) = true) : thrOf L (nxt L i) ≠ thrOf L i := by
  have hs := thr_succ L i hi
  rw [h, show b1 true = 1 from rfl] at hs
  by_cases he : i + 1 = L.length
  · have h2 : thrOf L L.length = L.countP lT := by unfold thrOf; rw [List.take_length]
    rw [he, h2] at hs
    have h0 : nxt L i = 0 := by unfold nxt; rw [he, Nat.mod_self]
    rw [h0]
    have : thrOf L 0 = 0 := rfl
    omega
  · rw [show nxt L i = i + 1 from Nat.mod_eq_of_lt (by omega)]
    omega
theorem hap_code {L : List Nat} {f s : Nat} (h1 : f < s) (h2 : thrOf L f = thrOf L s) (h3 : kd L f = false ∨ kd L s = true ∨ fenB L f s = true) : hap L f s = true := by
  unfold hap byCode
  rw [decide_eq_true h1, h2]
  rcases h3 with h | h | h <;> simp [h]
theorem fen_at {L : List Nat} {f k s : Nat} (h1 : f < k) (h2 : k ≤ s) (h : fE (L[prv L k]?.getD 0) = true) : fenB L f s = true := by
  unfold fenB
  rw [List.any_eq_true]
  exact ⟨k, List.mem_range.2 (by omega), by rw [decide_eq_true h1, h]; rfl⟩
theorem hap_ww {L : List Nat} (hL : Lay L) {f s : Nat} (hf : f < L.length) (hs : s < L.length) (hc : cellOf L f = cellOf L s) (h1 : kd L s = true) (h2 : vaOf L f < vaOf L s) (h3 : kd L f = true ∨ clm L f = true) : hap L f s = true := by
  have h4 : (kd L f || clm L f) = true := by rcases h3 with h | h <;> simp [h]
  unfold hap byVal
  rw [hc, h1, if_pos rfl, vB_eq L hL f hf, vB_eq L hL s hs, decide_eq_true h2, h4]
  simp
theorem hap_wr {L : List Nat} (hL : Lay L) {f s : Nat} (hf : f < L.length) (hs : s < L.length) (hc : cellOf L f = cellOf L s) (h1 : kd L f = true) (h2 : kd L s = false) (h3 : clm L s = true) (h4 : vaOf L f = vaOf L s) (h5 : ownW L s ≠ some f) : hap L f s = true := by
  unfold hap byVal
  rw [hc, h1, h2, h3, vB_eq L hL f hf, vB_eq L hL s hs, h4, if_neg h5]
  simp

/-- with a fence at every step to another cell, each event has to happen ahead of a later one of the cycle -/
theorem firm_fwd (L : List Nat) (hR : Ring L) (hlT : lT (L[L.length - 1]?.getD 0) = true) (hT2 : 2 ≤ L.countP lT) (hF : ∀ i, i < L.length → lC (L[i]?.getD 0) = true → fE (L[i]?.getD 0) = true) {i : Nat} (hi : i < L.length) : fwd L i < L.length ∧ hap L i (fwd L i) = true := by
  have hL := hR.toLay
  have hjl := nxt_lt L hL i
  have he := getD_lt hR.small i
  have hjo := hR.joins i hi
  have hpn := prv_nxt L hL hi
  unfold fwd
  by_cases h13 : L[i]?.getD 0 = 13
  · rw [if_pos h13]
    have hl2 := nxt_lt L hL (nxt L i)
    refine ⟨hl2, ?_⟩
    obtain ⟨h1, h2, h3⟩ := in_thread L hlT hi (by rw [h13]; rfl)
    have hki : kd L i = true := by unfold kd; rw [h13]; rfl
    have hkj : kd L (nxt L i) = false := by rw [hjo, h13]; rfl
    have he2 := getD_lt hR.small (nxt L i)
    have hjo2 := hR.joins (nxt L i) hjl
    have hpn2 := prv_nxt L hL hjl
    have hce : cellOf L (nxt L i) = cellOf L i := cell_next L hL hi (by rw [h13]; rfl)
    have hva := va_nxt L hL hi (by rw [h13]; rfl)
    rw [hkj, show b1 false = 0 from rfl, Nat.add_zero] at hva
    rw [h2] at hl2 hjl hjo hkj he2 hjo2 hpn2 hce hva hpn ⊢
    cases hC : lC (L[i + 1]?.getD 0)
    · -- Fr
      rcases edge_kinds he2 hC with ⟨_, _, _, d, e⟩ | ⟨_, _, _, d, e⟩ | ⟨_, _, _, d, e⟩
      · unfold kd at hkj; rw [d] at hkj; cases hkj
      · unfold kd at hkj; rw [d] at hkj; cases hkj
      · rw [e] at hjo2
        have hce2 : cellOf L (nxt L (i + 1)) = cellOf L (i + 1) := cell_next L hL h1 hC
        have hva2 := va_nxt L hL h1 hC
        rw [hjo2, show b1 true = 1 from rfl] at hva2
        exact hap_ww hL hi hl2 (by rw [hce2, hce]) hjo2 (by omega) (Or.inl hki)
    · have hT : lT (L[i + 1]?.getD 0) = false := by
        cases h : lT (L[i + 1]?.getD 0)
        · rfl
        · rw [lT_lC h] at hC; cases hC
      obtain ⟨k1, k2, k3⟩ := in_thread L hlT h1 hT
      rw [k2]
      refine hap_code (by omega) (by rw [k3, h3]) (Or.inr (Or.inr (fen_at (k := i + 1 + 1) (by omega) (by omega) ?_)))
      rw [k2] at hpn2
      rw [hpn2]
      exact hF _ h1 hC
  · rw [if_neg h13]
    refine ⟨hjl, ?_⟩
    cases hT : lT (L[i]?.getD 0)
    · obtain ⟨h1, h2, h3⟩ := in_thread L hlT hi hT
      rw [h2] at hjl hjo hpn ⊢
      cases hC : lC (L[i]?.getD 0)
      · rcases cases14 he with h | h | h | h | h | h | h | h | h | h | h | h | h | h <;> rw [h] at hT hC hjo <;> try (exfalso; revert hT hC; decide)
        · exact hap_code (by omega) h3.symm (Or.inr (Or.inl (by rw [hjo]; rfl)))
        · exact hap_code (by omega) h3.symm (Or.inr (Or.inl (by rw [hjo]; rfl)))
        · exact absurd h h13
      · refine hap_code (by omega) h3.symm (Or.inr (Or.inr (fen_at (k := i + 1) (by omega) (by omega) ?_)))
        rw [hpn]
        exact hF _ hi hC
    · have hm := lT_lC hT
      have hva := va_nxt L hL hi hm
      have hce : cellOf L (nxt L i) = cellOf L i := cell_next L hL hi hm
      have hout := out_thread L hT2 hi hT
      rcases edge_kinds he hm with ⟨_, _, _, d, e⟩ | ⟨_, _, _, d, e⟩ | ⟨a, b, c, d, e⟩
      · rw [e] at hjo
        have hki : kd L i = true := d
        rw [hjo, show b1 false = 0 from rfl, Nat.add_zero] at hva
        refine hap_wr hL hi hjl hce.symm hki hjo ?_ hva.symm (fun hw => ?_)
        · rw [clm_eq L hR _ hjl, hjo]
          unfold lone
          rw [hpn, hm]
          rfl
        · exact hout ((ownTo_some L _ _ _ hw).2.1).symm
      · rw [e] at hjo
        have hki : kd L i = true := d
        rw [hjo, show b1 true = 1 from rfl] at hva
        exact hap_ww hL hi hjl hce.symm hjo (by omega) (Or.inl hki)
      · rw [e] at hjo
        have hki : kd L i = false := d
        rw [hjo, show b1 true = 1 from rfl] at hva
        refine hap_ww hL hi hjl hce.symm hjo (by omega) (Or.inr ?_)
        rw [clm_eq L hR _ hi, hki]
        unfold lone
        rw [hm, Bool.and_false]
        rfl
/-- with a fence at every step to another cell there is no order -/
theorem firm_core (L : List Nat) (hR : Ring L) (hlT : lT (L[L.length - 1]?.getD 0) = true) (hT2 : 2 ≤ L.countP lT) (hF : ∀ i, i < L.length → lC (L[i]?.getD 0) = true → fE (L[i]?.getD 0) = true) : shown L = false := by
  cases hs : shown L
  · rfl
  · exfalso
    obtain ⟨r, h1, h2⟩ := ord_rank hs
    have hup : ∀ n, ∃ i, i < L.length ∧ n ≤ r i := by
      intro n
      induction n with
      | zero => exact ⟨0, hR.toLay.pos, Nat.zero_le _⟩
      | succ n ih =>
        obtain ⟨i, hi, hn⟩ := ih
        obtain ⟨h3, h4⟩ := firm_fwd L hR hlT hT2 hF hi
        have := h2 i _ hi h3 h4
        exact ⟨_, h3, by omega⟩
    obtain ⟨i, _, hi⟩ := hup (L.length + 1)
    have := h1 i
    omega

end Go.Proofs.YtokfiflflcfidabDoor
