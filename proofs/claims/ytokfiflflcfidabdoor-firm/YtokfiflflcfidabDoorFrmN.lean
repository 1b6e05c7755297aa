import Derived.Test.YtokfiflflcfidabDoorFrmM
import Derived.Test.YtokfiflflcfidabDoorBldU
import Derived.Test.YtokfiflflcfidabDoorTx
namespace Go.Proofs.YtokfiflflcfidabDoor
open Go.RowKit

/-- an F edge in the place of a P edge -/
def frm (e : Nat) : Nat := if 8 ≤ e ∧ e ≤ 11 then e - 6 else e
theorem frm_cases (e : Nat) : frm e = e ∧ (e < 8 ∨ 11 < e) ∨ (e = 8 ∧ frm e = 2) ∨ (e = 9 ∧ frm e = 3) ∨ (e = 10 ∧ frm e = 4) ∨ (e = 11 ∧ frm e = 5) := by
  unfold frm
  split <;> omega
theorem frm_bW (e : Nat) : bW (frm e) = bW e := by
  rcases frm_cases e with ⟨h, _⟩ | ⟨rfl, h⟩ | ⟨rfl, h⟩ | ⟨rfl, h⟩ | ⟨rfl, h⟩ <;> rw [h] <;> rfl
theorem frm_eW (e : Nat) : eW (frm e) = eW e := by
  rcases frm_cases e with ⟨h, _⟩ | ⟨rfl, h⟩ | ⟨rfl, h⟩ | ⟨rfl, h⟩ | ⟨rfl, h⟩ <;> rw [h] <;> rfl
theorem frm_lT (e : Nat) : lT (frm e) = lT e := by
  rcases frm_cases e with ⟨h, _⟩ | ⟨rfl, h⟩ | ⟨rfl, h⟩ | ⟨rfl, h⟩ | ⟨rfl, h⟩ <;> rw [h] <;> rfl
theorem frm_lC (e : Nat) : lC (frm e) = lC e := by
  rcases frm_cases e with ⟨h, _⟩ | ⟨rfl, h⟩ | ⟨rfl, h⟩ | ⟨rfl, h⟩ | ⟨rfl, h⟩ <;> rw [h] <;> rfl
theorem frm_lt {e : Nat} (h : e < 14) : frm e < 14 := by
  rcases frm_cases e with ⟨h1, _⟩ | ⟨rfl, h1⟩ | ⟨rfl, h1⟩ | ⟨rfl, h1⟩ | ⟨rfl, h1⟩ <;> rw [h1] <;> omega
theorem frm_fE {e : Nat} (h : e < 14) (hc : lC (frm e) = true) : fE (frm e) = true := by
  have : frm e < 14 := frm_lt h
  rcases frm_cases e with ⟨h1, h2⟩ | ⟨rfl, h1⟩ | ⟨rfl, h1⟩ | ⟨rfl, h1⟩ | ⟨rfl, h1⟩
  · rw [h1] at hc ⊢
    rcases cases14 h with h | h | h | h | h | h | h | h | h | h | h | h | h | h <;> rw [h] at hc h2 ⊢ <;> first | rfl | (exfalso; revert hc; decide) | (exfalso; omega)
  · rw [h1]; rfl
  · rw [h1]; rfl
  · rw [h1]; rfl
  · rw [h1]; rfl
theorem frm_at (l : List Nat) (i : Nat) : (l.map frm)[i]?.getD 0 = frm (l[i]?.getD 0) := by
  rw [List.getElem?_map]
  cases l[i]? <;> rfl
theorem jn_map (l : List Nat) : jn (l.map frm) = jn l := by
  funext i
  unfold jn
  rw [frm_at, frm_at, frm_bW, frm_eW, List.length_map]
theorem count_map (p : Nat → Bool) (h : ∀ e, p (frm e) = p e) (l : List Nat) : (l.map frm).countP p = l.countP p := by
  rw [List.countP_map]
  congr 1
  funext e
  exact h e
theorem flc_map (l : List Nat) : flc (l.map frm) = flc l := by
  unfold flc
  have : (fun i : Nat => !lC ((l.map frm)[i]?.getD 0)) = fun i : Nat => !lC (l[i]?.getD 0) := by
    funext i
    rw [frm_at, frm_lC]
  rw [this, List.length_map]
theorem turn_map (l : List Nat) (k : Nat) : turn (l.map frm) k = (turn l k).map frm := by
  unfold turn turnTo
  rw [List.map_map, List.length_map]
  apply List.map_congr_left
  intro i _
  exact frm_at l _
theorem mcwTo_map (l : List Nat) (n : Nat) : mcwTo (l.map frm) n = mcwTo l n := by
  unfold mcwTo
  rw [← List.map_take, List.foldl_map]
  congr 1
  funext s e
  unfold mcwStep wrOf
  rw [frm_lC, frm_eW]
theorem chk_map (l : List Nat) : chk (l.map frm) = chk l := by
  unfold chk unj mcw
  rw [jn_map, count_map lT frm_lT, count_map lC frm_lC, flc_map, turn_map, mcwTo_map, List.length_map]

/-- the firm cycle's text -/
def frmT (s : List UInt8) : List UInt8 := tx ((baseL s).map frm)
theorem firm_text {s : List UInt8} (h : (rd s).1 = 0) : rd (frmT s) = (0, 0) ∧ shown (ringL (frmT s)) = false := by
  obtain ⟨hR, hlast, h16, hbl, hrl, hE, hpos⟩ := rd_ring h
  have hz := bs_bs h
  have hb0 : 0 < (baseL s).length := by omega
  have hb16 : (baseL s).length ≤ 16 := by omega
  have hck : chk (baseL s) = (0, 0) := by
    have h1 : bsL s = tx (baseL s) := by
      have := rd_zero h
      unfold bsL
      rw [if_pos h]
      rfl
    rw [← rd_tx (baseL s) hE hb0 hb16, ← h1]
    exact hz.1
  have hE2 : ∀ x ∈ (baseL s).map frm, x < 14 := by
    intro x hx
    obtain ⟨e, he, rfl⟩ := List.mem_map.1 hx
    exact frm_lt (hE e he)
  have hrd : rd (frmT s) = (0, 0) := by
    unfold frmT
    rw [rd_tx _ hE2 (by rw [List.length_map]; exact hb0) (by rw [List.length_map]; exact hb16), chk_map]
    exact hck
  refine ⟨hrd, ?_⟩
  obtain ⟨kR, klast, k16, kbl, krl, kE, kpos⟩ := rd_ring (s := frmT s) (by rw [hrd])
  have hed : edgesOf (frmT s) = (baseL s).map frm := (isE_tx _ hE2 (by rw [List.length_map]; exact hb0)).2
  have hbase : baseL (frmT s) = leastOf ((baseL s).map frm) := by unfold baseL; rw [hed]; rfl
  have hlen2 : 0 < (baseL (frmT s)).length := by omega
  refine firm_core _ kR klast ?_ (fun i hi hc => ?_)
  · show 2 ≤ (ringOf (baseL (frmT s))).countP lT
    rw [ring_count lT _ hlen2, hbase]
    obtain ⟨r, hr, hrr⟩ := leastOf_is ((baseL s).map frm) (by rw [List.length_map]; exact hb0)
    rw [hrr, countP_turn _ _ _ (by omega), count_map lT frm_lT]
    have h1 := hck
    unfold chk at h1
    by_cases h2 : unj (baseL s) < (baseL s).length
    · rw [if_pos h2] at h1; cases h1
    · rw [if_neg h2] at h1
      by_cases h3 : (baseL s).countP lT < 2
      · rw [if_pos h3] at h1; cases h1
      · omega
  · have hm : (ringL (frmT s))[i]?.getD 0 ∈ ringL (frmT s) := by rw [List.getElem?_eq_getElem hi]; exact List.getElem_mem _
    have hm2 := ring_mem (baseL (frmT s)) hlen2 _ hm
    rw [hbase] at hm2
    have hm3 := mem_leastTo _ _ _ hm2
    obtain ⟨e, he, hee⟩ := List.mem_map.1 hm3
    rw [← hee] at hc ⊢
    exact frm_fE (hE e he) hc

end Go.Proofs.YtokfiflflcfidabDoor
