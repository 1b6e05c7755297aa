import Derived.Test.YtokfiflflcfidabDoorTx
import Derived.Test.YtokfiflflcfidabDoorBldU
import Derived.Test.YtokfiflflcfidabDoorLblW
namespace Go.Proofs.YtokfiflflcfidabDoor
open Go.RowKit

theorem turn_back (l : List Nat) (k : Nat) (hk : k ≤ l.length) : turn (turn l k) (l.length - k) = l := by
  rw [turn_turn, show k + (l.length - k) = l.length from by omega, turn_full]
theorem unj_turn (l : List Nat) (k : Nat) (hk : k ≤ l.length) : unj (turn l k) < (turn l k).length ↔ unj l < l.length := by
  have one : ∀ (l : List Nat) (k : Nat), ¬ unj l < l.length → ¬ unj (turn l k) < (turn l k).length := by
    intro l k h
    rw [unj_full] at h ⊢
    intro i hi
    rw [turn_length] at hi
    rw [jn_turn l k i hi]
    exact h _ (Nat.mod_lt _ (by omega))
  constructor
  · intro h
    apply Classical.byContradiction
    intro hn
    exact one l k hn h
  · intro h
    apply Classical.byContradiction
    intro hn
    have := one (turn l k) (l.length - k) hn
    rw [turn_back l k hk] at this
    exact this h
/-- the kind of a rotation's error -/
theorem chk1_turn (l : List Nat) (k : Nat) (hk : k ≤ l.length) : (chk (turn l k)).1 = (chk l).1 := by
  unfold chk
  have hu := unj_turn l k hk
  have hT : (turn l k).countP lT = l.countP lT := countP_turn _ _ _ hk
  have hC : (turn l k).countP lC = l.countP lC := countP_turn _ _ _ hk
  by_cases h1 : unj l < l.length
  · rw [if_pos h1, if_pos (hu.2 h1)]
  · rw [if_neg h1, if_neg (fun h => h1 (hu.1 h)), hT, hC]
    by_cases h2 : l.countP lT < 2
    · rw [if_pos h2, if_pos h2]
    · rw [if_neg h2, if_neg h2]
      by_cases h3 : l.countP lC < 2
      · rw [if_pos h3, if_pos h3]
      · rw [if_neg h3, if_neg h3]
        have hm : 2 < mcw (turn l k) ↔ 2 < mcw l := by
          rw [mcw_big _ (by rw [hC]; omega), big_turn l k hk, ← mcw_big l (by omega)]
        by_cases h4 : 2 < mcw l
        · rw [if_pos h4, if_pos (hm.2 h4)]
        · rw [if_neg h4, if_neg (fun h => h4 (hm.1 h))]

/-- the text of a rotation -/
def rotT (s : List UInt8) (k : Nat) : List UInt8 := tx (turn (edgesOf s) k)
theorem rot_facts {s : List UInt8} (hE : isE s = true) (hl : s.length ≤ 63) (k : Nat) (hk : k ≤ (edgesOf s).length) :
    (rd (rotT s k)).1 = (rd s).1 ∧ baseL (rotT s k) = baseL s ∧ (rotT s k).length ≤ 63 ∧ isE (rotT s k) = true ∧ edgesOf (rotT s k) = turn (edgesOf s) k := by
  have hlt := edgesOf_lt hE
  have hlen := edgesOf_length hE
  have hE2 : ∀ x ∈ turn (edgesOf s) k, x < 14 := by
    rw [turn_eq _ _ hk]
    intro x hx
    rcases List.mem_append.1 hx with h | h
    · exact hlt x (List.mem_of_mem_drop h)
    · exact hlt x (List.mem_of_mem_take h)
  have hl16 : (edgesOf s).length ≤ 16 := by omega
  have hpos : 0 < (turn (edgesOf s) k).length := by rw [turn_length]; exact hlen.1
  have h1 := isE_tx _ hE2 hpos
  have h2 := tx_length (turn (edgesOf s) k)
  rw [turn_length] at h2
  refine ⟨?_, ?_, by unfold rotT; omega, h1.1, h1.2⟩
  · unfold rotT
    rw [rd_tx _ hE2 hpos (by rw [turn_length]; exact hl16), chk1_turn _ _ hk, rd_is (by omega) hE, chk_eq _ hlen.1]
  · unfold baseL rotT
    rw [h1.2]
    exact leastOf_turn _ hlen.1 k
theorem rot_bs {s : List UInt8} (hE : isE s = true) (hl : s.length ≤ 63) (k : Nat) (hk : k ≤ (edgesOf s).length) : bs (rotT s k) = bs s := by
  obtain ⟨h1, h2, _, _, _⟩ := rot_facts hE hl k hk
  unfold bs bsL
  rw [h1]
  by_cases h0 : (rd s).1 = 0
  · rw [if_pos h0, if_pos h0]
    have e1 : tx (leastOf (edgesOf (rotT s k))) = tx (baseL (rotT s k)) := rfl
    have e2 : tx (leastOf (edgesOf s)) = tx (baseL s) := rfl
    rw [e1, e2, h2]
  · rw [if_neg h0, if_neg h0]
theorem rot_ring {s : List UInt8} (hE : isE s = true) (hl : s.length ≤ 63) (k : Nat) (hk : k ≤ (edgesOf s).length) : ringL (rotT s k) = ringL s := by
  obtain ⟨_, h2, _⟩ := rot_facts hE hl k hk
  unfold ringL
  rw [h2]

end Go.Proofs.YtokfiflflcfidabDoor
