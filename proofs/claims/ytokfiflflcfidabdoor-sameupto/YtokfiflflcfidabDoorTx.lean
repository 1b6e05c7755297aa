import Derived.Test.YtokfiflflcfidabDoorPlain
import Derived.Test.YtokfiflflcfidabDoorParse
import Derived.Test.YtokfiflflcfidabDoorRefC
import Derived.Test.YtokfiflflcfidabDoorCells
import Derived.Test.YtokfiflflcfidabDoorText
import Derived.Test.YtokfiflflcfidabDoorLawB0
import Derived.Test.YtokfiflflcfidabDoorRot
namespace Go.Proofs.YtokfiflflcfidabDoor
open Go.RowKit

theorem getD_append_left {a b : List UInt8} {i : Nat} (h : i < a.length) : (a ++ b)[i]?.getD 0 = a[i]?.getD 0 := by rw [List.getElem?_append_left h]
theorem getD_append_right {a b : List UInt8} {i : Nat} (h : a.length ≤ i) : (a ++ b)[i]?.getD 0 = b[i - a.length]?.getD 0 := by rw [List.getElem?_append_right h]

theorem tx_at (l : List Nat) (n i : Nat) (hi : i < 4 * n - 1) : (txTo l n)[i]?.getD 0 = if i % 4 = 3 then 32 else (nmL (l[i / 4]?.getD 0))[i % 4]?.getD 0 := by
  induction n with
  | zero => omega
  | succ n ih =>
    have hlen := txTo_length l n
    simp only [txTo]
    by_cases h0 : n = 0
    · rw [if_pos h0, List.nil_append]
      subst h0
      rw [if_neg (by omega), show i / 4 = 0 from by omega, show i % 4 = i from by omega]
    · rw [if_neg h0]
      by_cases h1 : i < 4 * n - 1
      · rw [List.append_assoc, getD_append_left (by omega)]
        exact ih h1
      · by_cases h2 : i = 4 * n - 1
        · rw [getD_append_left (by simp; omega), getD_append_right (by omega), if_pos (by omega), show i - (txTo l n).length = 0 from by omega]; rfl
        · rw [getD_append_right (by simp; omega), if_neg (by omega), show i / 4 = n from by omega]
          have e9 : i - (txTo l n ++ [32]).length = i % 4 := by
            rw [List.length_append, hlen, List.length_singleton]; omega
          rw [e9]

theorem tx_length (l : List Nat) : (tx l).length = 4 * l.length - 1 := txTo_length _ _
theorem seg_tx (l : List Nat) (j k : Nat) (hj : j < l.length) (hk : k ≤ 3) : seg (tx l) (4 * j) (4 * j + k) = (nmL (l[j]?.getD 0)).take k := by
  have hlen := tx_length l
  unfold seg
  rw [show 4 * j + k - 4 * j = k from by omega]
  apply List.ext_getElem
  · simp [nmL_length]; omega
  · intro i h1 h2
    simp only [List.length_take, List.length_drop, nmL_length] at h1 h2
    have hb := tx_at l l.length (4 * j + i) (by omega)
    rw [if_neg (by omega), show (4 * j + i) / 4 = j from by omega, show (4 * j + i) % 4 = i from by omega] at hb
    have h3 : 4 * j + i < (txTo l l.length).length := by rw [txTo_length]; omega
    have h4 : i < (nmL (l[j]?.getD 0)).length := by rw [nmL_length]; omega
    simp only [List.getElem?_eq_getElem h3, List.getElem?_eq_getElem h4, Option.getD_some] at hb
    simp only [List.getElem_take, List.getElem_drop]
    exact hb
theorem ebw_nm (e : Nat) (he : e < 14) : ebw (nmL e) = e := by
  rcases cases14 he with rfl | rfl | rfl | rfl | rfl | rfl | rfl | rfl | rfl | rfl | rfl | rfl | rfl | rfl <;> decide
theorem ebw_take (e : Nat) (he : e < 14) (k : Nat) : ebw ((nmL e).take k) < 14 := by
  unfold ebw
  rw [firstNo_lt]
  refine ⟨e, he, ?_⟩
  have : ((nmL e).take k).isPrefixOf (nmL e) = true := by rw [List.isPrefixOf_iff_prefix]; exact List.take_prefix _ _
  rw [this]; rfl
theorem okAt_tx (l : List Nat) (hE : ∀ x ∈ l, x < 14) (i : Nat) (hi : i < 4 * l.length - 1) : okAt (tx l) i = true := by
  by_cases h3 : i % 4 = 3
  · rw [okAt_blank h3]
    unfold tx
    rw [tx_at l _ i hi, if_pos h3]; rfl
  · rw [okAt_letter h3]
    have := seg_tx l (i / 4) (i % 4 + 1) (by omega) (by omega)
    rw [show 4 * (i / 4) = i - i % 4 from by omega, show i - i % 4 + (i % 4 + 1) = i + 1 from by omega] at this
    rw [this]
    simpa using ebw_take _ (getD_lt hE _) _
theorem isE_tx (l : List Nat) (hE : ∀ x ∈ l, x < 14) (hl : 0 < l.length) : isE (tx l) = true ∧ edgesOf (tx l) = l := by
  have hlen := tx_length l
  refine ⟨(stop_whole (fun j hj => okAt_tx l hE j (by omega)) (by omega)).1, ?_⟩
  apply ext_getD
  · unfold edgesOf; rw [edgesTo_length]; omega
  · intro i hi
    unfold edgesOf at hi
    rw [edgesTo_length] at hi
    have hin : i < l.length := by omega
    unfold edgesOf edgesTo
    have h1 : i < (tx l).length + 1 := by omega
    have h2 : i < ((tx l).length + 1) / 4 := by omega
    simp only [List.getElem?_map, List.getElem?_range h2, Option.map_some, Option.getD_some]
    rw [seg_tx l i 3 hin (Nat.le_refl _), List.take_of_length_le (by rw [nmL_length]; exact Nat.le_refl _), ebw_nm _ (getD_lt hE i)]
theorem rd_tx (l : List Nat) (hE : ∀ x ∈ l, x < 14) (hl : 0 < l.length) (hl2 : l.length ≤ 16) : rd (tx l) = chk l := by
  have h := isE_tx l hE hl
  have hlen := tx_length l
  rw [rd_is (by omega) h.1, h.2, chk_eq l hl]
theorem bs_tx (l : List Nat) (hE : ∀ x ∈ l, x < 14) (hl : 0 < l.length) (hl2 : l.length ≤ 16) (hc : chk l = (0, 0)) : bsL (tx l) = tx (leastOf l) := by
  unfold bsL
  rw [rd_tx l hE hl hl2, hc, if_pos rfl, (isE_tx l hE hl).2]
/-- the base of a base -/
theorem bs_bs {s : List UInt8} (h : (rd s).1 = 0) : rd (bsL s) = (0, 0) ∧ bsL (bsL s) = bsL s ∧ (bsL s).length = s.length ∧ 15 ≤ (bsL s).length := by
  have hz := rd_zero h
  have hE := edgesOf_lt hz.2.1
  have hlen := edgesOf_length hz.2.1
  have hch : chk (edgesOf s) = (0, 0) := by rw [← chk_eq _ hlen.1]; exact hz.2.2.2
  have hl16 : (edgesOf s).length ≤ 16 := by have := hz.2.2.1; omega
  have h4 := chk_four _ hch
  have e1 : bsL s = tx (leastOf (edgesOf s)) := by unfold bsL; rw [if_pos h]
  have hE2 : ∀ x ∈ leastOf (edgesOf s), x < 14 := fun x hx => hE x (mem_leastTo _ _ x hx)
  have hc2 := chk_least _ hlen.1 hch
  have hll := leastOf_length (edgesOf s)
  rw [e1]
  refine ⟨?_, ?_, ?_, ?_⟩
  · rw [rd_tx _ hE2 (by omega) (by omega), hc2]
  · rw [bs_tx _ hE2 (by omega) (by omega) hc2, leastOf_leastOf _ hlen.1]
  · rw [tx_length, hll]; omega
  · rw [tx_length, hll]; omega

end Go.Proofs.YtokfiflflcfidabDoor
