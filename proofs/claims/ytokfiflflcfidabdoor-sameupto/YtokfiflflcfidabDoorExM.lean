import Derived.Test.YtokfiflflcfidabDoorSeg2
namespace Go.Proofs.YtokfiflflcfidabDoor
open Go.RowKit

def nxt (L : List Nat) (i : Nat) : Nat := (i + 1) % L.length
def isRf (e : Nat) : Bool := 12 ≤ e
def isCo (e : Nat) : Bool := e ≤ 1
def isFr (e : Nat) : Bool := e == 6 || e == 7

/-- a closed cycle of edges -/
structure Ring (L : List Nat) : Prop extends Lay L where
  small : ∀ x ∈ L, x < 14
  joins : ∀ i, i < L.length → kd L (nxt L i) = eW (L[i]?.getD 0)
  few : ∀ c, wrs L c ≤ 2

theorem prv_lt (L : List Nat) (hL : Lay L) (i : Nat) : prv L i < L.length := Nat.mod_lt _ hL.pos
theorem nxt_lt (L : List Nat) (hL : Lay L) (i : Nat) : nxt L i < L.length := Nat.mod_lt _ hL.pos
theorem nxt_prv (L : List Nat) (hL : Lay L) {i : Nat} (hi : i < L.length) : nxt L (prv L i) = i := by
  have := hL.pos
  unfold nxt prv
  rw [Nat.mod_add_mod, show i + L.length - 1 + 1 = i + L.length from by omega, Nat.add_mod_right, Nat.mod_eq_of_lt hi]
theorem prv_nxt (L : List Nat) (hL : Lay L) {i : Nat} (hi : i < L.length) : prv L (nxt L i) = i := by
  have := hL.pos
  unfold nxt prv
  rw [show (i + 1) % L.length + L.length - 1 = (i + 1) % L.length + (L.length - 1) from by omega, Nat.mod_add_mod, show i + 1 + (L.length - 1) = i + L.length from by omega, Nat.add_mod_right, Nat.mod_eq_of_lt hi]

theorem edge_kinds {e : Nat} (h : e < 14) (hm : lC e = false) :
    (isRf e = true ∧ isCo e = false ∧ isFr e = false ∧ bW e = true ∧ eW e = false) ∨ (isRf e = false ∧ isCo e = true ∧ isFr e = false ∧ bW e = true ∧ eW e = true) ∨ (isRf e = false ∧ isCo e = false ∧ isFr e = true ∧ bW e = false ∧ eW e = true) := by
  rcases cases14 h with rfl | rfl | rfl | rfl | rfl | rfl | rfl | rfl | rfl | rfl | rfl | rfl | rfl | rfl <;> revert hm <;> decide
theorem edge_moves {e : Nat} (h : e < 14) (hm : lC e = true) : isRf e = false ∧ isCo e = false ∧ isFr e = false := by
  rcases cases14 h with rfl | rfl | rfl | rfl | rfl | rfl | rfl | rfl | rfl | rfl | rfl | rfl | rfl | rfl <;> revert hm <;> decide

theorem va_nxt (L : List Nat) (hL : Lay L) {i : Nat} (hi : i < L.length) (hm : lC (L[i]?.getD 0) = false) : vaOf L (nxt L i) = vaOf L i + b1 (kd L (nxt L i)) := by
  rw [va_rec L hL _ (nxt_lt L hL i), prv_nxt L hL hi, hm]; rfl
theorem va_new (L : List Nat) (hL : Lay L) {i : Nat} (hi : i < L.length) (hm : lC (L[i]?.getD 0) = true) : vaOf L (nxt L i) = b1 (kd L (nxt L i)) := by
  rw [va_rec L hL _ (nxt_lt L hL i), prv_nxt L hL hi, hm, if_pos rfl, Nat.zero_add]

/-- a read of which nothing is claimed -/
def lone (L : List Nat) (i : Nat) : Bool := lC (L[prv L i]?.getD 0) && lC (L[i]?.getD 0)

/-- a choice: fr i: 0, or one more than the write that read i was given; pl i: the place of write i -/
structure Choice (L : List Nat) (fr pl : Nat → Nat) : Prop where
  from_ : ∀ i, i < L.length → kd L i = false → fr i = 0 ∨ ∃ j, fr i = j + 1 ∧ j < L.length ∧ kd L j = true ∧ cellOf L j = cellOf L i
def valR (L : List Nat) (fr : Nat → Nat) (i : Nat) : Nat := if fr i = 0 then 0 else vaOf L (fr i - 1)

/-- the claims of the reads are met -/
def MetR (L : List Nat) (fr : Nat → Nat) : Prop := ∀ i, i < L.length → kd L i = false → lone L i = false → valR L fr i = vaOf L i
/-- the second write of each cell comes behind the first -/
def MetC (L : List Nat) (pl : Nat → Nat) : Prop := ∀ i j, i < L.length → j < L.length → kd L i = true → kd L j = true → cellOf L i = cellOf L j → vaOf L i = 1 → vaOf L j = 2 → pl i < pl j
/-- edge i holds -/
def Holds (L : List Nat) (fr pl : Nat → Nat) (i : Nat) : Prop :=
  (isRf (L[i]?.getD 0) = true → fr (nxt L i) = i + 1) ∧ (isCo (L[i]?.getD 0) = true → pl i < pl (nxt L i)) ∧ (isFr (L[i]?.getD 0) = true → fr i ≠ 0 → pl (fr i - 1) < pl (nxt L i))

theorem exact_to (L : List Nat) (hR : Ring L) (fr pl : Nat → Nat) (hC : Choice L fr pl) (h1 : MetR L fr) (h2 : MetC L pl) : ∀ i, i < L.length → Holds L fr pl i := by
  intro i hi
  have hL := hR.toLay
  have he := getD_lt hR.small i
  have hj := hR.joins i hi
  have hjl := nxt_lt L hL i
  have hpn := prv_nxt L hL hi
  by_cases hm : lC (L[i]?.getD 0) = true
  · obtain ⟨a, b, c⟩ := edge_moves he hm
    exact ⟨fun h => by simp [a] at h, fun h => by simp [b] at h, fun h => by simp [c] at h⟩
  · have hm : lC (L[i]?.getD 0) = false := by simpa using hm
    have hva := va_nxt L hL hi hm
    have hce : cellOf L (nxt L i) = cellOf L i := cell_next L hL hi hm
    have hle := va_le L hL hjl
    have hfew := hR.few (cellOf L (nxt L i))
    rcases edge_kinds he hm with ⟨a, b, c, d, e⟩ | ⟨a, b, c, d, e⟩ | ⟨a, b, c, d, e⟩
    · refine ⟨fun _ => ?_, fun h => by simp [b] at h, fun h => by simp [c] at h⟩
      rw [e] at hj
      have hki : kd L i = true := d
      have hv := h1 (nxt L i) hjl hj (by unfold lone; rw [hpn, hm]; rfl)
      rw [hj, show b1 false = 0 from rfl, Nat.add_zero] at hva
      have hpos := va_pos L hL hi hki
      rcases hC.from_ (nxt L i) hjl hj with h0 | ⟨k, hk, hkl, hkw, hkc⟩
      · unfold valR at hv; rw [if_pos h0] at hv; omega
      · unfold valR at hv
        rw [if_neg (by omega), hk, show k + 1 - 1 = k from by omega, hva] at hv
        rw [hk, va_inj L hL hkl hi hkw hki (hkc.trans hce) hv]
    · refine ⟨fun h => by simp [a] at h, fun _ => ?_, fun h => by simp [c] at h⟩
      rw [e] at hj
      have hki : kd L i = true := d
      rw [hj, show b1 true = 1 from rfl] at hva
      have hpos := va_pos L hL hi hki
      exact h2 i (nxt L i) hi hjl hki hj hce.symm (by omega) (by omega)
    · refine ⟨fun h => by simp [a] at h, fun h => by simp [b] at h, fun _ h0 => ?_⟩
      rw [e] at hj
      have hki : kd L i = false := d
      rw [hj, show b1 true = 1 from rfl] at hva
      have hv := h1 i hi hki (by unfold lone; rw [hm, Bool.and_false])
      rcases hC.from_ i hi hki with h0' | ⟨k, hk, hkl, hkw, hkc⟩
      · exact absurd h0' h0
      · unfold valR at hv
        rw [if_neg h0, hk, show k + 1 - 1 = k from by omega] at hv
        have hpos := va_pos L hL hkl hkw
        rw [hk, show k + 1 - 1 = k from by omega]
        exact h2 k (nxt L i) hkl hjl hkw hj (hkc.trans hce.symm) (by omega) (by omega)

theorem exact_from2 (L : List Nat) (hR : Ring L) (fr pl : Nat → Nat) (h : ∀ i, i < L.length → Holds L fr pl i) : MetC L pl := by
  intro i j hi hj hki hkj hc h1 h2
  have hL := hR.toLay
  have hp := prv_lt L hL j
  have hnp := nxt_prv L hL hj
  have he := getD_lt hR.small (prv L j)
  have hjn := hR.joins (prv L j) hp
  rw [hnp] at hjn
  have hm : lC (L[prv L j]?.getD 0) = false := by
    cases hm : lC (L[prv L j]?.getD 0)
    · rfl
    · have := va_new L hL hp hm
      rw [hnp, hkj, h2] at this
      cases this
  have hva := va_nxt L hL hp hm
  have hce := cell_next L hL hp hm
  rw [show (prv L j + 1) % L.length = j from hnp] at hce
  rw [hnp, hkj, h2, show b1 true = 1 from rfl] at hva
  have hH := h (prv L j) hp
  rcases edge_kinds he hm with ⟨a, b, c, d, e⟩ | ⟨a, b, c, d, e⟩ | ⟨a, b, c, d, e⟩
  · rw [e, hkj] at hjn; cases hjn
  · have := va_inj L hL hp hi d hki (hce.symm.trans hc.symm) (by omega)
    have h3 := hH.2.1 b
    rw [hnp, this] at h3
    exact h3
  · have hkp : kd L (prv L j) = false := d
    have hq := prv_lt L hL (prv L j)
    have hnq := nxt_prv L hL hp
    have heq := getD_lt hR.small (prv L (prv L j))
    have hjq := hR.joins _ hq
    rw [hnq] at hjq
    have hmq : lC (L[prv L (prv L j)]?.getD 0) = false := by
      cases hm : lC (L[prv L (prv L j)]?.getD 0)
      · rfl
      · have := va_new L hL hq hm
        rw [hnq, hkp, show b1 false = 0 from rfl] at this
        omega
    have hvq := va_nxt L hL hq hmq
    have hcq := cell_next L hL hq hmq
    rw [show (prv L (prv L j) + 1) % L.length = prv L j from hnq] at hcq
    rw [hnq, hkp, show b1 false = 0 from rfl] at hvq
    rcases edge_kinds heq hmq with ⟨a', b', c', d', e'⟩ | ⟨a', b', c', d', e'⟩ | ⟨a', b', c', d', e'⟩
    · have hf := (h _ hq).1 a'
      rw [hnq] at hf
      have h3 := hH.2.2 c (by omega)
      rw [hnp, hf, Nat.add_sub_cancel] at h3
      rwa [va_inj L hL hq hi d' hki (by rw [← hcq, ← hce, hc]) (by omega)] at h3
    · rw [e', hkp] at hjq; cases hjq
    · rw [e', hkp] at hjq; cases hjq

theorem exact_from1 (L : List Nat) (hR : Ring L) (fr pl : Nat → Nat) (hC : Choice L fr pl) (h : ∀ i, i < L.length → Holds L fr pl i) : MetR L fr := by
  intro i hi hki hlo
  have h2 := exact_from2 L hR fr pl h
  have hL := hR.toLay
  have hp := prv_lt L hL i
  have hnp := nxt_prv L hL hi
  have he := getD_lt hR.small (prv L i)
  have hjn := hR.joins (prv L i) hp
  rw [hnp] at hjn
  cases hm : lC (L[prv L i]?.getD 0)
  · rcases edge_kinds he hm with ⟨a, b, c, d, e⟩ | ⟨a, b, c, d, e⟩ | ⟨a, b, c, d, e⟩
    · have hf := (h _ hp).1 a
      rw [hnp] at hf
      have hva := va_nxt L hL hp hm
      rw [hnp, hki, show b1 false = 0 from rfl] at hva
      unfold valR
      rw [if_neg (by omega), hf, Nat.add_sub_cancel]
      omega
    · rw [e, hki] at hjn; cases hjn
    · rw [e, hki] at hjn; cases hjn
  · have hva := va_new L hL hp hm
    rw [hnp, hki, show b1 false = 0 from rfl] at hva
    unfold lone at hlo
    rw [hm, Bool.true_and] at hlo
    have he2 := getD_lt hR.small i
    have hjl := nxt_lt L hL i
    have hj2 := hR.joins i hi
    have hv2 := va_nxt L hL hi hlo
    have hce : cellOf L (nxt L i) = cellOf L i := cell_next L hL hi hlo
    have hbw : bW (L[i]?.getD 0) = false := hki
    rcases edge_kinds he2 hlo with ⟨a, b, c, d, e⟩ | ⟨a, b, c, d, e⟩ | ⟨a, b, c, d, e⟩
    · rw [d] at hbw; cases hbw
    · rw [d] at hbw; cases hbw
    · rw [e] at hj2
      rw [hj2, show b1 true = 1 from rfl] at hv2
      unfold valR
      by_cases h0 : fr i = 0
      · rw [if_pos h0, hva]
      · exfalso
        rcases hC.from_ i hi hki with h0' | ⟨k, hk, hkl, hkw, hkc⟩
        · exact h0 h0'
        · have h3 := (h i hi).2.2 c h0
          rw [hk, Nat.add_sub_cancel] at h3
          have hpos := va_pos L hL hkl hkw
          have hle := va_le L hL hkl
          have hfew := hR.few (cellOf L k)
          by_cases hk1 : vaOf L k = 1
          · have := va_inj L hL hkl hjl hkw hj2 (hkc.trans hce.symm) (by omega)
            rw [this] at h3
            exact absurd h3 (Nat.lt_irrefl _)
          · have := h2 (nxt L i) k hjl hkl hj2 hkw (hce.trans hkc.symm) (by omega) (by omega)
            omega

/-- what is claimed is seen exactly if the cycle was gone round -/
theorem exact_core (L : List Nat) (hR : Ring L) (fr pl : Nat → Nat) (hC : Choice L fr pl) : (MetR L fr ∧ MetC L pl) ↔ ∀ i, i < L.length → Holds L fr pl i :=
  ⟨fun h => exact_to L hR fr pl hC h.1 h.2, fun h => ⟨exact_from1 L hR fr pl hC h, exact_from2 L hR fr pl h⟩⟩

/-- the cell of a lone read has no write -/
theorem lone_none (L : List Nat) (hL : Lay L) {i j : Nat} (hi : i < L.length) (hj : j < L.length) (hlo : lone L i = true) (hk : kd L i = false) (hkj : kd L j = true) : cellOf L j ≠ cellOf L i := by
  intro hc
  unfold lone at hlo
  rw [Bool.and_eq_true] at hlo
  have hi0 : i ≠ 0 := by
    intro h
    subst h
    have := hlo.1
    unfold prv at this
    rw [Nat.zero_add, Nat.mod_eq_of_lt (by omega), hL.last] at this
    cases this
  have ho : Opn L i := by
    refine ⟨by omega, hi, ?_⟩
    have := hlo.1
    unfold prv at this
    rw [show i + L.length - 1 = (i - 1) + L.length from by omega, Nat.add_mod_right, Nat.mod_eq_of_lt (by omega)] at this
    exact this
  obtain ⟨s, k, ho', hk', rfl⟩ := at_row L hL j hj
  rw [cell_run L hL s k ho'.2.1 hk'] at hc
  have := opn_one L ho' ho hc
  subst this
  have hr : runE L s = 0 := by
    apply Nat.eq_zero_of_not_pos
    intro hpos
    have := runE_step L s 0 hpos
    rw [Nat.add_zero, Nat.mod_eq_of_lt hi, hlo.2] at this
    cases this
  have : k = 0 := by omega
  subst this
  rw [Nat.add_zero, Nat.mod_eq_of_lt hi, hk] at hkj
  cases hkj

/-- two choices that meet the claims of the reads give them the same -/
theorem one_from (L : List Nat) (hR : Ring L) (fr fr' pl pl' : Nat → Nat) (hC : Choice L fr pl) (hC' : Choice L fr' pl') (h : MetR L fr) (h' : MetR L fr') (i : Nat) (hi : i < L.length) (hk : kd L i = false) : fr i = fr' i := by
  have hL := hR.toLay
  cases hlo : lone L i
  · have a := h i hi hk hlo
    have b := h' i hi hk hlo
    rcases hC.from_ i hi hk with h0 | ⟨j, hj, hjl, hjw, hjc⟩
    · rcases hC'.from_ i hi hk with h0' | ⟨j', hj', hjl', hjw', hjc'⟩
      · rw [h0, h0']
      · have := va_pos L hL hjl' hjw'
        unfold valR at a b
        rw [if_pos h0] at a
        rw [if_neg (by omega), hj', Nat.add_sub_cancel] at b
        omega
    · rcases hC'.from_ i hi hk with h0' | ⟨j', hj', hjl', hjw', hjc'⟩
      · have := va_pos L hL hjl hjw
        unfold valR at a b
        rw [if_pos h0'] at b
        rw [if_neg (by omega), hj, Nat.add_sub_cancel] at a
        omega
      · unfold valR at a b
        rw [if_neg (by omega), hj', Nat.add_sub_cancel] at b
        rw [if_neg (by omega), hj, Nat.add_sub_cancel] at a
        rw [hj, hj', va_inj L hL hjl hjl' hjw hjw' (hjc.trans hjc'.symm) (a.trans b.symm)]
  · have key : ∀ f p, Choice L f p → f i = 0 := by
      intro f p hc
      rcases hc.from_ i hi hk with h0 | ⟨j, hj, hjl, hjw, hjc⟩
      · exact h0
      · exact absurd hjc (lone_none L hL hi hjl hlo hk hjw)
    rw [key fr pl hC, key fr' pl' hC']

end Go.Proofs.YtokfiflflcfidabDoor
