import Derived.WalkKit
namespace Go.Proofs.Ytokfiflflcfidab
open Go.RowKit

/-- does the event at which edge e begins write? -/
def bW (e : Nat) : Bool := e == 0 || e == 1 || e == 4 || e == 5 || e == 10 || e == 11 || e == 12 || e == 13
/-- does the event at which edge e ends write? -/
def eW (e : Nat) : Bool := e == 0 || e == 1 || e == 3 || e == 5 || e == 6 || e == 7 || e == 9 || e == 11
/-- does edge e lead to another thread? -/
def lT (e : Nat) : Bool := e == 0 || e == 6 || e == 12
/-- does edge e lead to another cell? -/
def lC (e : Nat) : Bool := e == 2 || e == 3 || e == 4 || e == 5 || e == 8 || e == 9 || e == 10 || e == 11

theorem cases14 {e : Nat} (h : e < 14) : e = 0 ∨ e = 1 ∨ e = 2 ∨ e = 3 ∨ e = 4 ∨ e = 5 ∨ e = 6 ∨ e = 7 ∨ e = 8 ∨ e = 9 ∨ e = 10 ∨ e = 11 ∨ e = 12 ∨ e = 13 := by omega

theorem ret_int {k : IntKind} {a b : Int} (h : a = b) : Ending.returned (.int k a) = .returned (.int k b) := by rw [h]

theorem getD_lt {l : List Nat} (h : ∀ x ∈ l, x < 14) (k : Nat) : l[k]?.getD 0 < 14 := by
  by_cases hk : k < l.length
  · simp [hk]; exact h _ (List.getElem_mem hk)
  · simp [Nat.not_lt.1 hk]

theorem take_snoc (l : List Nat) (n : Nat) (h : n < l.length) : l.take (n + 1) = l.take n ++ [l[n]?.getD 0] := by
  rw [List.take_succ_eq_append_getElem h]; simp [h]

theorem countP_take_succ (p : Nat → Bool) (l : List Nat) (n : Nat) (h : n < l.length) : (l.take (n + 1)).countP p = (l.take n).countP p + if p (l[n]?.getD 0) then 1 else 0 := by
  rw [take_snoc l n h, List.countP_append]; simp [List.countP_cons]

theorem countP_take_le (p : Nat → Bool) (l : List Nat) (n : Nat) : (l.take n).countP p ≤ n :=
  Nat.le_trans List.countP_le_length (List.length_take_le _ _)

/-- the rotation of l that begins at k, its first n edges -/
def turnTo (l : List Nat) (k : Nat) (n : Nat) : List Nat := (List.range n).map fun i => l[(k + i) % l.length]?.getD 0
def turn (l : List Nat) (k : Nat) : List Nat := turnTo l k l.length

theorem turnTo_succ (l : List Nat) (k n : Nat) : turnTo l k (n + 1) = turnTo l k n ++ [l[(k + n) % l.length]?.getD 0] := by
  simp [turnTo, List.range_succ]
theorem turn_length (l : List Nat) (k : Nat) : (turn l k).length = l.length := by simp [turn, turnTo]

/-- does a come ahead of b? -/
def lexLt : List Nat → List Nat → Bool
  | [], [] => false
  | [], _ :: _ => true
  | _ :: _, [] => false
  | x :: a, y :: b => if x = y then lexLt a b else decide (x < y)

theorem lexLt_step (a b : List Nat) (k : Nat) (ha : k < a.length) (hb : k < b.length) :
    lexLt (a.drop k) (b.drop k) = if a[k]?.getD 0 = b[k]?.getD 0 then lexLt (a.drop (k + 1)) (b.drop (k + 1)) else decide (a[k]?.getD 0 < b[k]?.getD 0) := by
  rw [List.drop_eq_getElem_cons ha, List.drop_eq_getElem_cons hb]
  simp [lexLt, ha, hb]

theorem lexLt_end (a b : List Nat) (k : Nat) (ha : a.length ≤ k) (hb : b.length ≤ k) : lexLt (a.drop k) (b.drop k) = false := by
  rw [List.drop_of_length_le ha, List.drop_of_length_le hb]; rfl

/-- the least of the rotations that begin at edges below n -/
def leastTo (l : List Nat) : Nat → List Nat
  | 0 => l
  | n + 1 => if lexLt (turn l (n + 1)) (leastTo l n) then turn l (n + 1) else leastTo l n
def leastOf (l : List Nat) : List Nat := leastTo l (l.length - 1)
theorem leastTo_length (l : List Nat) (n : Nat) : (leastTo l n).length = l.length := by
  induction n with
  | zero => rfl
  | succ n ih => simp only [leastTo]; split <;> simp [ih, turn_length]

/-- one behind the last edge to another thread among the first n -/
def outTo (l : List Nat) : Nat → Nat
  | 0 => 0
  | n + 1 => if lT (l[n]?.getD 0) then n + 1 else outTo l n
theorem outTo_le (l : List Nat) (n : Nat) : outTo l n ≤ n := by
  induction n with
  | zero => exact Nat.le_refl _
  | succ n ih => simp only [outTo]; split <;> omega

theorem rot_succ (l : List Nat) (k n : Nat) (h : k + n < l.length) : (l.drop k).take (n + 1) = (l.drop k).take n ++ [l[k + n]?.getD 0] := by
  rw [take_snoc (l.drop k) n (by simp; omega)]; simp

theorem turn_eq (l : List Nat) (k : Nat) (h : k ≤ l.length) : turn l k = l.drop k ++ l.take k := by
  apply List.ext_getElem
  · simp [turn_length]; omega
  · intro i h1 h2
    have hi : i < l.length := by rw [turn_length] at h1; exact h1
    simp only [turn, turnTo, List.getElem_map, List.getElem_range]
    by_cases hk : k + i < l.length
    · rw [Nat.mod_eq_of_lt hk, List.getElem_append_left (by simp; omega)]
      simp [hk]
    · have e1 : (k + i) % l.length = k + i - l.length := by
        rw [Nat.mod_eq_sub_mod (by omega), Nat.mod_eq_of_lt (by omega)]
      rw [e1, List.getElem_append_right (by simp; omega)]
      have h3 : k + i - l.length < l.length := by omega
      have h4 : i - (l.length - k) = k + i - l.length := by omega
      simp [h3, h4]

theorem turn_zero (l : List Nat) : turn l 0 = l := by rw [turn_eq l 0 (Nat.zero_le _)]; simp

/-- the first number below n at which p says no, or n -/
def firstNo (p : Nat → Bool) : Nat → Nat
  | 0 => 0
  | n + 1 => if firstNo p n < n then firstNo p n else if p n then n + 1 else n
theorem firstNo_le (p : Nat → Bool) (n : Nat) : firstNo p n ≤ n := by
  induction n with
  | zero => exact Nat.le_refl _
  | succ n ih => simp only [firstNo]; split <;> (try split) <;> omega
theorem firstNo_yes (p : Nat → Bool) (n : Nat) : ∀ i, i < firstNo p n → p i = true := by
  induction n with
  | zero => intro i hi; simp [firstNo] at hi
  | succ n ih =>
    intro i hi
    have hle := firstNo_le p n
    simp only [firstNo] at hi
    by_cases h1 : firstNo p n < n
    · rw [if_pos h1] at hi; exact ih i hi
    · rw [if_neg h1] at hi
      by_cases h2 : p n = true
      · rw [if_pos h2] at hi
        by_cases h3 : i = n
        · rw [h3]; exact h2
        · exact ih i (by omega)
      · rw [if_neg h2] at hi; exact ih i (by omega)
theorem firstNo_no (p : Nat → Bool) (n : Nat) (h : firstNo p n < n) : p (firstNo p n) = false := by
  induction n with
  | zero => simp at h
  | succ n ih =>
    have hle := firstNo_le p n
    simp only [firstNo] at h ⊢
    by_cases h1 : firstNo p n < n
    · rw [if_pos h1]; exact ih h1
    · rw [if_neg h1] at h ⊢
      by_cases h2 : p n = true
      · rw [if_pos h2] at h; omega
      · rw [if_neg h2]; simpa using h2
theorem firstNo_eq (p : Nat → Bool) (n k : Nat) (hk : k ≤ n) (hyes : ∀ i, i < k → p i = true) (hno : k = n ∨ p k = false) : firstNo p n = k := by
  have h1 := firstNo_le p n
  have h2 := firstNo_yes p n
  have h3 := firstNo_no p n
  by_cases a : firstNo p n < k
  · have := hyes _ a; rw [h3 (by omega)] at this; cases this
  · by_cases b : k < firstNo p n
    · have := h2 k b
      rcases hno with h | h
      · omega
      · rw [h] at this; cases this
    · omega

/-- does edge i begin where the one ahead of it ends? -/
def jn (l : List Nat) (i : Nat) : Bool := bW (l[i]?.getD 0) == eW (l[(i + l.length - 1) % l.length]?.getD 0)
def unj (l : List Nat) : Nat := firstNo (jn l) l.length

/-- the number of the first edge to another cell, or 0 -/
def flc (l : List Nat) : Nat := if firstNo (fun i => !lC (l[i]?.getD 0)) l.length < l.length then firstNo (fun i => !lC (l[i]?.getD 0)) l.length else 0
theorem flc_le (l : List Nat) : flc l ≤ l.length := by unfold flc; split <;> omega

/-- the writes of the cell that is being counted, the most of those behind -/
def wrOf (s : Nat × Nat) (e : Nat) : Nat := (if lC e then 0 else s.2) + if eW e then 1 else 0
def mcwStep (s : Nat × Nat) (e : Nat) : Nat × Nat := (if s.1 < wrOf s e then wrOf s e else s.1, wrOf s e)
def mcwTo (l : List Nat) (n : Nat) : Nat × Nat := (l.take n).foldl mcwStep (0, 0)
theorem mcwTo_succ (l : List Nat) (n : Nat) (h : n < l.length) : mcwTo l (n + 1) = mcwStep (mcwTo l n) (l[n]?.getD 0) := by
  unfold mcwTo; rw [take_snoc l n h, List.foldl_append]; rfl
theorem wrOf_le (s : Nat × Nat) (e : Nat) : wrOf s e ≤ s.2 + 1 := by unfold wrOf; split <;> split <;> omega
theorem mcwTo_le (l : List Nat) (n : Nat) : (mcwTo l n).1 ≤ n ∧ (mcwTo l n).2 ≤ n := by
  induction n with
  | zero => simp [mcwTo]
  | succ n ih =>
    by_cases h : n < l.length
    · rw [mcwTo_succ l n h]
      have := wrOf_le (mcwTo l n) (l[n]?.getD 0)
      unfold mcwStep
      dsimp only
      constructor
      · split <;> omega
      · omega
    · have e1 : mcwTo l (n + 1) = mcwTo l n := by unfold mcwTo; rw [List.take_of_length_le (by omega), List.take_of_length_le (by omega)]
      rw [e1]; omega
def mcw (l : List Nat) : Nat := (mcwTo (turn l (flc l)) l.length).1

/-- Check's answer for a list of edges -/
def chk (l : List Nat) : Nat × Nat :=
  if unj l < l.length then (3, unj l) else if l.countP lT < 2 then (4, 0) else if l.countP lC < 2 then (5, 0) else if 2 < mcw l then (6, 0) else (0, 0)

end Go.Proofs.Ytokfiflflcfidab
