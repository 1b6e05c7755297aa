import Derived.Test.YtokfiflflcfidabDoorPlain
import Derived.Test.YtokfiflflcfidabDoorParse
import Derived.Test.YtokfiflflcfidabDoorMem
import Derived.Test.YtokfiflflcfidabDoorEvMem
import Derived.Test.YtokfiflflcfidabDoorRefC
import Derived.Test.YtokfiflflcfidabDoorCells
import Derived.Test.YtokfiflflcfidabDoorText
import Derived.Test.YtokfiflflcfidabDoorLawB0
namespace Go.Proofs.YtokfiflflcfidabDoor
open Go.RowKit

theorem getD_turn (l : List Nat) (k i : Nat) (hi : i < l.length) : (turn l k)[i]?.getD 0 = l[(k + i) % l.length]?.getD 0 := by
  have : i < (turn l k).length := by rw [turn_length]; exact hi
  simp [turn, turnTo, hi]
theorem ext_getD {a b : List Nat} (h : a.length = b.length) (hall : ∀ i, i < a.length → a[i]?.getD 0 = b[i]?.getD 0) : a = b := by
  apply List.ext_getElem h
  intro i h1 h2
  have := hall i h1
  simpa [h1, h2] using this
theorem turn_turn (l : List Nat) (r k : Nat) : turn (turn l r) k = turn l (r + k) := by
  apply ext_getD
  · rw [turn_length, turn_length, turn_length]
  · intro i hi
    rw [turn_length, turn_length] at hi
    have hl : 0 < l.length := by omega
    rw [getD_turn _ k i (by rw [turn_length]; exact hi), turn_length, getD_turn _ r _ (Nat.mod_lt _ hl), getD_turn _ _ i hi, Nat.add_mod_mod, Nat.add_assoc]
theorem turn_modR (l : List Nat) (r : Nat) : turn l (r % l.length) = turn l r := by
  apply ext_getD
  · rw [turn_length, turn_length]
  · intro i hi
    rw [turn_length] at hi
    rw [getD_turn _ _ i hi, getD_turn _ _ i hi, Nat.mod_add_mod]
theorem turn_full (l : List Nat) : turn l l.length = l := by rw [turn_eq l _ (Nat.le_refl _)]; simp

theorem lexLt_irrefl (a : List Nat) : lexLt a a = false := by
  induction a with
  | nil => rfl
  | cons x a ih => simp [lexLt, ih]
theorem lexLt_total {a b : List Nat} (h : a.length = b.length) (h1 : lexLt a b = false) (h2 : lexLt b a = false) : a = b := by
  induction a generalizing b with
  | nil => cases b with
    | nil => rfl
    | cons y b => simp at h
  | cons x a ih => cases b with
    | nil => simp at h
    | cons y b =>
      simp only [lexLt] at h1 h2
      by_cases hxy : x = y
      · subst hxy
        rw [if_pos rfl] at h1 h2
        rw [ih (by simpa using h) h1 h2]
      · rw [if_neg hxy] at h1
        rw [if_neg (fun e => hxy e.symm)] at h2
        simp at h1 h2
        omega
theorem lexLt_trans {a b c : List Nat} (h1 : lexLt a b = true) (h2 : lexLt b c = true) : lexLt a c = true := by
  induction a generalizing b c with
  | nil => cases c with
    | nil => cases b with
      | nil => cases h1
      | cons y b => cases h2
    | cons z c => rfl
  | cons x a ih => cases b with
    | nil => cases h1
    | cons y b => cases c with
      | nil => cases h2
      | cons z c =>
        simp only [lexLt] at h1 h2 ⊢
        by_cases hxy : x = y
        · subst hxy
          rw [if_pos rfl] at h1
          by_cases hxz : x = z
          · subst hxz
            rw [if_pos rfl] at h2 ⊢
            exact ih h1 h2
          · rw [if_neg hxz] at h2 ⊢; exact h2
        · rw [if_neg hxy] at h1
          by_cases hyz : y = z
          · subst hyz; rw [if_neg hxy]; exact h1
          · rw [if_neg hyz] at h2
            simp at h1 h2
            rw [if_neg (by omega)]; simp; omega
theorem lexLt_asymm {a b : List Nat} (h : lexLt a b = true) : lexLt b a = false := by
  cases hb : lexLt b a
  · rfl
  · have := lexLt_trans h hb
    rw [lexLt_irrefl] at this; cases this
/-- a ≤ b, b < c: a < c, and the like -/
theorem lexLt_le {a b c : List Nat} (h1 : lexLt b a = false) (h2 : lexLt b c = true) (hlen : a.length = b.length) : lexLt a c = true := by
  cases hab : lexLt a b
  · rw [lexLt_total hlen hab h1]; exact h2
  · exact lexLt_trans hab h2

/-- no rotation is less -/
def Least (l : List Nat) : Prop := ∀ k, lexLt (turn l k) l = false
theorem leastTo_min (l : List Nat) (n : Nat) : ∀ k, k ≤ n → lexLt (turn l k) (leastTo l n) = false := by
  induction n with
  | zero => intro k hk; rw [show k = 0 from by omega, turn_zero]; exact lexLt_irrefl _
  | succ n ih =>
    intro k hk
    simp only [leastTo]
    cases hc : lexLt (turn l (n + 1)) (leastTo l n)
    · rw [if_neg (by simp)]
      by_cases hkn : k = n + 1
      · rw [hkn]; exact hc
      · exact ih k (by omega)
    · rw [if_pos rfl]
      by_cases hkn : k = n + 1
      · rw [hkn]; exact lexLt_irrefl _
      · cases hkk : lexLt (turn l k) (turn l (n + 1))
        · rfl
        · have := lexLt_trans hkk hc
          rw [ih k (by omega)] at this; cases this
theorem leastOf_min (l : List Nat) (hl : 0 < l.length) (k : Nat) : lexLt (turn l k) (leastOf l) = false := by
  rw [← turn_modR]
  exact leastTo_min l _ _ (by have := Nat.mod_lt k hl; omega)
theorem leastOf_least (l : List Nat) (hl : 0 < l.length) : Least (leastOf l) := by
  obtain ⟨r, hr, hR⟩ := leastOf_is l hl
  intro k
  have := leastOf_min l hl (r + k)
  rw [← turn_turn, ← hR] at this
  exact this
theorem leastOf_length (l : List Nat) : (leastOf l).length = l.length := leastTo_length _ _
/-- the least of the rotations of any rotation is the same -/
theorem leastOf_turn (l : List Nat) (hl : 0 < l.length) (k : Nat) : leastOf (turn l k) = leastOf l := by
  have hlt : 0 < (turn l k).length := by rw [turn_length]; exact hl
  obtain ⟨r, hr, hR⟩ := leastOf_is l hl
  obtain ⟨q, hq, hQ⟩ := leastOf_is (turn l k) hlt
  apply lexLt_total
  · rw [leastOf_length, leastOf_length, turn_length]
  · rw [hQ, turn_turn]; exact leastOf_min l hl _
  · have := leastOf_min (turn l k) hlt (r + l.length * k - k)
    rw [turn_turn] at this
    have e1 : turn l (k + (r + l.length * k - k)) = turn l r := by
      have : k + (r + l.length * k - k) = r + l.length * k := by
        have : k ≤ l.length * k := Nat.le_mul_of_pos_left k hl
        omega
      rw [this, ← turn_modR, Nat.add_mul_mod_self_left, turn_modR]
    rw [e1, ← hR] at this
    exact this
theorem leastOf_self (l : List Nat) (hl : 0 < l.length) (h : Least l) : leastOf l = l := by
  apply lexLt_total (leastOf_length l)
  · obtain ⟨r, hr, hR⟩ := leastOf_is l hl
    rw [hR]; exact h r
  · have := leastOf_min l hl 0
    rwa [turn_zero] at this
theorem leastOf_leastOf (l : List Nat) (hl : 0 < l.length) : leastOf (leastOf l) = leastOf l :=
  leastOf_self _ (by rw [leastOf_length]; exact hl) (leastOf_least l hl)

theorem jn_turn (l : List Nat) (k i : Nat) (hi : i < l.length) : jn (turn l k) i = jn l ((k + i) % l.length) := by
  have hl : 0 < l.length := by omega
  unfold jn
  rw [turn_length, getD_turn l k i hi, getD_turn l k _ (Nat.mod_lt _ hl)]
  have e1 : (k + (i + l.length - 1) % l.length) % l.length = ((k + i) % l.length + l.length - 1) % l.length := by
    rw [Nat.add_mod_mod]
    have h1 : (k + i) % l.length + l.length - 1 = (k + i) % l.length + (l.length - 1) := by omega
    have h2 : k + (i + l.length - 1) = (k + i) + (l.length - 1) := by omega
    rw [h1, h2, Nat.mod_add_mod]
  rw [e1]
theorem unj_full (l : List Nat) : ¬ unj l < l.length ↔ ∀ i, i < l.length → jn l i = true := by
  unfold unj
  rw [firstNo_lt]
  constructor
  · intro h i hi
    cases hj : jn l i
    · exact absurd ⟨i, hi, hj⟩ h
    · rfl
  · rintro h ⟨i, hi, hj⟩
    rw [h i hi] at hj; cases hj
theorem chk_zero_iff (l : List Nat) : chk l = (0, 0) ↔ ¬ unj l < l.length ∧ ¬ l.countP lT < 2 ∧ ¬ l.countP lC < 2 ∧ ¬ 2 < mcw l := by
  unfold chk
  by_cases h1 : unj l < l.length
  · rw [if_pos h1]; simp [h1]
  · rw [if_neg h1]
    by_cases h2 : l.countP lT < 2
    · rw [if_pos h2]; simp [h2]
    · rw [if_neg h2]
      by_cases h3 : l.countP lC < 2
      · rw [if_pos h3]; simp [h3]
      · rw [if_neg h3]
        by_cases h4 : 2 < mcw l
        · rw [if_pos h4]; simp [h4]
        · rw [if_neg h4]; simp [h1, h2, h3, h4]
/-- a rotation of a cycle is one -/
theorem chk_turn (l : List Nat) (k : Nat) (hk : k ≤ l.length) (h : chk l = (0, 0)) : chk (turn l k) = (0, 0) := by
  rw [chk_zero_iff] at h ⊢
  obtain ⟨h1, h2, h3, h4⟩ := h
  have hl : 0 < l.length := by
    have : l.countP lC ≤ l.length := List.countP_le_length
    omega
  refine ⟨?_, by rw [countP_turn _ _ _ hk]; exact h2, by rw [countP_turn _ _ _ hk]; exact h3, ?_⟩
  · rw [unj_full] at h1 ⊢
    intro i hi
    rw [turn_length] at hi
    rw [jn_turn l k i hi]
    exact h1 _ (Nat.mod_lt _ hl)
  · rw [mcw_big _ (by rw [countP_turn _ _ _ hk]; omega), big_turn l k hk, ← mcw_big l (by omega)]
    exact h4
theorem chk_least (l : List Nat) (hl : 0 < l.length) (h : chk l = (0, 0)) : chk (leastOf l) = (0, 0) := by
  obtain ⟨r, hr, hR⟩ := leastOf_is l hl
  rw [hR]; exact chk_turn l r (by omega) h
theorem chk_four (l : List Nat) (h : chk l = (0, 0)) : 4 ≤ l.length := by
  rw [chk_zero_iff] at h
  have : l.countP lT + l.countP lC ≤ l.length := by
    clear h
    induction l with
    | nil => simp
    | cons e l ih =>
      rw [countP_cons', countP_cons', List.length_cons]
      have : b1 (lT e) + b1 (lC e) ≤ 1 := by
        cases ht : lT e <;> cases hc : lC e <;> simp [b1]
        simp only [lT, lC, Bool.or_eq_true, beq_iff_eq] at ht hc
        omega
      omega
  omega

end Go.Proofs.YtokfiflflcfidabDoor
