import Derived.Test.YtokfiflflcfidaaPSndT
import Derived.Test.YtokfiflflcfidaaPrtM
namespace Go.Proofs.Ytokfiflflcfidaa
open Go.RowKit

/-- the number for which a sign is written -/
def numF (x : UInt8) : List UInt8 → Nat → Int
  | [], _ => -1
  | y :: ys, n => if y = x then (n : Int) else numF x ys (n + 1)
def numL (signs : List UInt8) (x : UInt8) : Int := numF x signs 0
def celS : List UInt8 := [97, 98, 99, 100, 101, 102, 103, 104, 105, 106, 107, 108, 109, 110, 111, 112]
def nbrS : List UInt8 := [48, 49, 50, 51, 52, 53, 54, 55, 56, 57, 97, 98, 99, 100, 101, 102]
def valS : List UInt8 := [48, 49, 50, 51, 52, 53, 54, 55, 56, 57]
def fenL : List UInt8 := [102, 101, 110, 99, 101]
/-- a word such as a=1: the cell, the number, can it be read? -/
def ci0 : List UInt8 → Int
  | [a, b, _] => if b = 61 then numL celS a else 0
  | _ => 0
def ci1 : List UInt8 → Int
  | [_, b, c] => if b = 61 then numL valS c else 0
  | _ => 0
def ci2 : List UInt8 → Bool
  | [a, b, c] => (b == 61) && (decide (0 ≤ numL celS a) && decide (0 ≤ numL valS c))
  | _ => false
/-- an instruction's word read -/
def insR (l : List UInt8) : Q4 :=
  if l = fenL then ⟨3, 0, 0, 0⟩ else
    match l with
    | [a, b, c, d] => if a = 114 ∧ c = 61 then ⟨2, numL nbrS b, numL celS d, 0⟩ else ⟨1, 0, ci0 l, ci1 l⟩
    | _ => ⟨1, 0, ci0 l, ci1 l⟩
def insB (l : List UInt8) : Bool :=
  if l = fenL then true else
    match l with
    | [a, b, c, d] => if a = 114 ∧ c = 61 then (decide (0 ≤ numL nbrS b) && decide (0 ≤ numL celS d)) else ci2 l
    | _ => ci2 l
/-- a claim's word read -/
def clmR (l : List UInt8) : Q4 :=
  match l with
  | [a, b, c, d, e, f] => if b = 58 ∧ c = 114 ∧ e = 61 then ⟨numL nbrS a, numL nbrS d, 0, numL valS f⟩ else ⟨-1, 0, ci0 l, ci1 l⟩
  | _ => ⟨-1, 0, ci0 l, ci1 l⟩
def clmB (l : List UInt8) : Bool :=
  match l with
  | [a, b, c, d, e, f] => if b = 58 ∧ c = 114 ∧ e = 61 then (decide (0 ≤ numL nbrS a) && decide (0 ≤ numL nbrS d) && decide (0 ≤ numL valS f)) else ci2 l
  | _ => ci2 l

theorem numF_eq (x : UInt8) (signs : List UInt8) (k n : Nat) (h : signs[n]? = some x) (hn : ∀ m, m < n → signs[m]? ≠ some x) : numF x signs k = ((k + n : Nat) : Int) := by
  induction signs generalizing k n with
  | nil => simp at h
  | cons y ys ih =>
    unfold numF
    cases n with
    | zero =>
      simp at h
      rw [if_pos h]; rfl
    | succ n =>
      have hy : ¬ y = x := by have := hn 0 (by omega); simpa using this
      rw [if_neg hy, ih (k + 1) n (by simpa using h) (fun m hm => by have := hn (m + 1) (by omega); simpa using this)]
      congr 1
      omega
theorem numL_eq {signs : List UInt8} {x : UInt8} {n : Nat} (h : signs[n]? = some x) (hn : ∀ m, m < n → signs[m]? ≠ some x) : numL signs x = (n : Int) := by
  have := numF_eq x signs 0 n h hn
  rwa [Nat.zero_add] at this
theorem numF_no (x : UInt8) (signs : List UInt8) (k : Nat) (hn : ∀ m, m < signs.length → signs[m]? ≠ some x) : numF x signs k = -1 := by
  induction signs generalizing k with
  | nil => rfl
  | cons y ys ih =>
    unfold numF
    have hy : ¬ y = x := by have := hn 0 (by simp); simpa using this
    rw [if_neg hy, ih (k + 1) (fun m hm => by have := hn (m + 1) (by simpa using hm); simpa using this)]
theorem numL_no {signs : List UInt8} {x : UInt8} (hn : ∀ m, m < signs.length → signs[m]? ≠ some x) : numL signs x = -1 := numF_no x signs 0 hn

/-- the pieces of a text between the signs c: those that are ended, and the last -/
def spT (c : UInt8) (s : List UInt8) : List (List UInt8) × List UInt8 := s.foldl (fun p x => if x = c then (p.1 ++ [p.2], []) else (p.1, p.2 ++ [x])) ([], [])
def spS (c : UInt8) (s : List UInt8) : List (List UInt8) := (spT c s).1 ++ [(spT c s).2]
theorem spT_nil (c : UInt8) : spT c [] = ([], []) := rfl
theorem spT_snoc (c : UInt8) (s : List UInt8) (x : UInt8) : spT c (s ++ [x]) = if x = c then ((spT c s).1 ++ [(spT c s).2], []) else ((spT c s).1, (spT c s).2 ++ [x]) := by
  unfold spT
  rw [List.foldl_append]
  rfl
theorem spT_take (c : UInt8) (s : List UInt8) {n : Nat} (hn : n < s.length) : spT c (s.take (n + 1)) = if s[n]?.getD 0 = c then ((spT c (s.take n)).1 ++ [(spT c (s.take n)).2], []) else ((spT c (s.take n)).1, (spT c (s.take n)).2 ++ [s[n]?.getD 0]) := by
  rw [List.take_succ_eq_append_getElem hn, spT_snoc, List.getElem?_eq_getElem hn]
  rfl
theorem spT_len (c : UInt8) (s : List UInt8) (n : Nat) (hn : n ≤ s.length) : (spT c (s.take n)).2.length ≤ n ∧ (spT c (s.take n)).1.length ≤ n ∧ (s.take n).drop (n - (spT c (s.take n)).2.length) = (spT c (s.take n)).2 := by
  induction n with
  | zero => simp [spT_nil]
  | succ n ih =>
    obtain ⟨h1, h2, h3⟩ := ih (by omega)
    rw [spT_take c s (by omega)]
    split
    · refine ⟨by simp, by simp; omega, ?_⟩
      simp
    · refine ⟨by simp; omega, by simp; omega, ?_⟩
      simp only [List.length_append, List.length_cons, List.length_nil]
      rw [show n + 1 - ((spT c (s.take n)).2.length + (0 + 1)) = n - (spT c (s.take n)).2.length by omega, List.take_succ_eq_append_getElem (by omega), List.drop_append_of_le_length (by rw [List.length_take]; omega), h3, List.getElem?_eq_getElem (by omega)]
      rfl

theorem spT_mem (c : UInt8) (s : List UInt8) (n : Nat) (hn : n ≤ s.length) : ∀ x ∈ (spT c (s.take n)).1, x.length ≤ n := by
  induction n with
  | zero => intro x hx; simp [spT_nil] at hx
  | succ n ih =>
    have ih := ih (by omega)
    have hl := (spT_len c s n (by omega)).1
    rw [spT_take c s (by omega)]
    split
    · intro x hx
      rcases List.mem_append.1 hx with h | h
      · have := ih x h; omega
      · simp at h; subst h; omega
    · intro x hx
      have := ih x hx; omega
theorem spS_mem {c : UInt8} {s x : List UInt8} (hx : x ∈ spS c s) : x.length ≤ s.length := by
  have h1 := spT_mem c s s.length (Nat.le_refl _)
  have h2 := (spT_len c s s.length (Nat.le_refl _)).1
  rw [List.take_length] at h1 h2
  rcases List.mem_append.1 hx with h | h
  · exact h1 x h
  · simp at h; subst h; exact h2
theorem spS_len (c : UInt8) (s : List UInt8) : 0 < (spS c s).length ∧ (spS c s).length ≤ s.length + 1 := by
  have h2 := (spT_len c s s.length (Nat.le_refl _)).2.1
  rw [List.take_length] at h2
  unfold spS
  simp
  omega

/-- the line of a thread -/
def thB (k : Nat) (ws : List (List UInt8)) : Bool := (ws[0]?.getD [] == headL k) && (ws.drop 1).all insB
def thL (ws : List (List UInt8)) : List Q4 := (ws.drop 1).map insR
def thrR (k : Nat) (l : List UInt8) : List Q4 := if thB k (spS 32 l) then thL (spS 32 l) else []
def thrB (k : Nat) (l : List UInt8) : Bool := thB k (spS 32 l) && sndRow (thL (spS 32 l))
/-- the last line -/
def wnH : List UInt8 := [119, 97, 110, 116]
def wtB (ws : List (List UInt8)) : Bool := (ws[0]?.getD [] == wnH) && (ws.drop 1).all clmB
def wtL (ws : List (List UInt8)) : List Q4 := (ws.drop 1).map clmR
def wntR (l : List UInt8) : List Q4 := if wtB (spS 32 l) then wtL (spS 32 l) else []
def wntB (n : Nat) (l : List UInt8) : Bool := wtB (spS 32 l) && sndW n (wtL (spS 32 l))
/-- the first line -/
def nmH : List UInt8 := [108, 105, 116, 109, 117, 115, 32]
def nmOk (l : List UInt8) : Bool := l.take 7 == nmH
def nmR (l : List UInt8) : List UInt8 := if nmOk l then l.drop 7 else []
def nmB (l : List UInt8) : Bool := nmOk l && sndN (l.drop 7)
theorem upTo_zero {β : Type} (f : List UInt8 → β) (ws : List (List UInt8)) (j : Nat) (hj : j ≤ 1) : ((ws.take j).drop 1).map f = [] := by
  rw [List.drop_eq_nil_of_le (by rw [List.length_take]; omega)]; rfl
theorem upTo_succ {β : Type} (f : List UInt8 → β) (ws : List (List UInt8)) {j : Nat} (h1 : 1 ≤ j) (hj : j < ws.length) : ((ws.take (j + 1)).drop 1).map f = ((ws.take j).drop 1).map f ++ [f (ws[j]?.getD [])] := by
  rw [List.take_succ_eq_append_getElem hj, List.drop_append_of_le_length (by rw [List.length_take]; omega), List.map_append, List.getElem?_eq_getElem hj]
  rfl
theorem all_from {p : List UInt8 → Bool} {ws : List (List UInt8)} (h : ∀ i, 1 ≤ i → i < ws.length → p (ws[i]?.getD []) = true) : (ws.drop 1).all p = true := by
  rw [List.all_eq_true]
  intro x hx
  obtain ⟨i, hi, rfl⟩ := List.getElem_of_mem hx
  rw [List.length_drop] at hi
  have := h (i + 1) (by omega) (by omega)
  rw [List.getElem?_eq_getElem (by omega)] at this
  rw [List.getElem_drop]
  have e : ws[1 + i]'(by omega) = ws[i + 1]'(by omega) := by congr 1; omega
  rw [e]
  exact this
theorem all_fails {p : List UInt8 → Bool} {ws : List (List UInt8)} {i : Nat} (h1 : 1 ≤ i) (hi : i < ws.length) (h : p (ws[i]?.getD []) = false) : (ws.drop 1).all p = false := by
  rw [List.all_eq_false]
  refine ⟨ws[i]?.getD [], ?_, by simp [h]⟩
  rw [List.getElem?_eq_getElem hi, List.mem_iff_getElem]
  refine ⟨i - 1, by rw [List.length_drop]; omega, ?_⟩
  rw [List.getElem_drop]
  simp only [Option.getD_some]
  congr 1
  omega

end Go.Proofs.Ytokfiflflcfidaa
