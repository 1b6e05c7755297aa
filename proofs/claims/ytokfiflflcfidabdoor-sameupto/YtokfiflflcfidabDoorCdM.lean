import Derived.Test.YtokfiflflcfidabDoorExM
import Derived.Test.YtokfiflflcfidabDoorStM
namespace Go.Proofs.YtokfiflflcfidabDoor
open Go.RowKit

def fE (e : Nat) : Bool := e == 2 || e == 3 || e == 4 || e == 5
/-- the register of read i -/
def regOf (L : List Nat) (i : Nat) : Nat := (List.range i).countP fun k => thrOf L k == thrOf L i && !kd L k
def fenI : RIns := ⟨3, 0, 0, 0⟩
def insE (L : List Nat) (i : Nat) : RIns := if kd L i then ⟨1, 0, cellOf L i, vaOf L i⟩ else ⟨2, regOf L i, cellOf L i, 0⟩
/-- what is laid for event i: a fence, if an F edge leads to it, and the instruction -/
def em (L : List Nat) (i : Nat) : List RIns := (if fE (L[prv L i]?.getD 0) then [fenI] else []) ++ [insE L i]
/-- thread t's code: of the events below k -/
def cdTo (L : List Nat) (t : Nat) : Nat → List RIns
  | 0 => []
  | k + 1 => cdTo L t k ++ if thrOf L k = t then em L k else []
def codeOf (L : List Nat) : List (List RIns) := (List.range (L.countP lT)).map fun t => cdTo L t L.length
def wrTo (L : List Nat) : Nat → List RCl
  | 0 => []
  | k + 1 => wrTo L k ++ if !kd L k && !lone L k then [⟨(thrOf L k : Int), regOf L k, 0, vaOf L k⟩] else []
def wcTo (L : List Nat) : Nat → List RCl
  | 0 => []
  | c + 1 => wcTo L c ++ if wrs L c = 2 then [⟨-1, 0, c, 2⟩] else []
def wantOf (L : List Nat) : List RCl := wrTo L L.length ++ wcTo L (L.countP lC)

theorem thr_succ (L : List Nat) (i : Nat) (h : i < L.length) : thrOf L (i + 1) = thrOf L i + b1 (lT (L[i]?.getD 0)) := countP_take_succ lT L i h
theorem thr_mono (L : List Nat) {i j : Nat} (h : i ≤ j) : thrOf L i ≤ thrOf L j := by
  unfold thrOf
  have : L.take i = (L.take j).take i := by rw [List.take_take, Nat.min_eq_left h]
  rw [this]
  exact (List.take_sublist i _).countP_le
theorem thr_le (L : List Nat) (i : Nat) : thrOf L i ≤ L.countP lT := (List.take_sublist i L).countP_le
/-- the threads are numbered below their count, where the last edge leads to another one -/
theorem thr_lt (L : List Nat) (hl : 0 < L.length) (hlast : lT (L[L.length - 1]?.getD 0) = true) {i : Nat} (hi : i < L.length) : thrOf L i < L.countP lT := by
  have h1 := thr_succ L (L.length - 1) (by omega)
  have h2 : thrOf L L.length = L.countP lT := by unfold thrOf; rw [List.take_length]
  rw [show L.length - 1 + 1 = L.length from by omega, h2, hlast, show b1 true = 1 from rfl] at h1
  have := thr_mono L (show i ≤ L.length - 1 by omega)
  omega

theorem em_len (L : List Nat) (i : Nat) : 1 ≤ (em L i).length ∧ (em L i).length ≤ 2 := by
  unfold em; split <;> simp
theorem cdTo_len (L : List Nat) (t k : Nat) : (cdTo L t k).length ≤ 2 * k := by
  induction k with
  | zero => simp [cdTo]
  | succ k ih =>
    have := em_len L k
    simp only [cdTo, List.length_append]
    split
    · omega
    · simp; omega
theorem cdTo_prefix (L : List Nat) (t : Nat) {k m : Nat} (h : k ≤ m) : cdTo L t k <+: cdTo L t m := by
  induction m with
  | zero => have : k = 0 := by omega
            subst this; exact List.prefix_refl _
  | succ m ih =>
    by_cases hk : k = m + 1
    · subst hk; exact List.prefix_refl _
    · exact (ih (by omega)).trans (List.prefix_append _ _)
theorem cdTo_mono (L : List Nat) (t : Nat) {k m : Nat} (h : k ≤ m) : (cdTo L t k).length ≤ (cdTo L t m).length := (cdTo_prefix L t h).length_le

/-- the place of event i's instruction in its thread -/
def posn (L : List Nat) (i : Nat) : Nat := (cdTo L (thrOf L i) (i + 1)).length - 1
theorem posn_eq (L : List Nat) (i : Nat) : posn L i + 1 = (cdTo L (thrOf L i) i).length + (em L i).length := by
  have := em_len L i
  unfold posn
  rw [cdTo, if_pos rfl, List.length_append]
  omega
theorem posn_lt (L : List Nat) {i j : Nat} (h : i < j) (ht : thrOf L i = thrOf L j) : posn L i < posn L j := by
  have h1 := posn_eq L j
  have h2 := em_len L j
  have h3 := cdTo_mono L (thrOf L i) (show i + 1 ≤ j by omega)
  have h4 := posn_eq L i
  rw [cdTo, if_pos rfl, List.length_append] at h3
  rw [← ht] at h1
  omega
theorem posn_in (L : List Nat) {i n : Nat} (h : i < n) : posn L i < (cdTo L (thrOf L i) n).length := by
  have h3 := cdTo_mono L (thrOf L i) (show i + 1 ≤ n by omega)
  have h4 := posn_eq L i
  rw [cdTo, if_pos rfl, List.length_append] at h3
  omega
theorem posn_inj (L : List Nat) {i j : Nat} (ht : thrOf L i = thrOf L j) (h : posn L i = posn L j) : i = j := by
  rcases Nat.lt_trichotomy i j with h1 | h1 | h1
  · have := posn_lt L h1 ht; omega
  · exact h1
  · have := posn_lt L h1 ht.symm; omega

/-- what stands at place p of thread t's code -/
theorem code_at (L : List Nat) (t k p : Nat) (hp : p < (cdTo L t k).length) :
    ((cdTo L t k)[p]?.getD rins0 = fenI ∧ ∀ i, i < k → thrOf L i = t → posn L i ≠ p) ∨ ∃ i, i < k ∧ thrOf L i = t ∧ posn L i = p ∧ (cdTo L t k)[p]?.getD rins0 = insE L i := by
  induction k with
  | zero => simp [cdTo] at hp
  | succ k ih =>
    by_cases ht : thrOf L k = t
    · have hcd : cdTo L t (k + 1) = cdTo L t k ++ em L k := by rw [cdTo, if_pos ht]
      have hpk := posn_eq L k
      rw [ht] at hpk
      have hel := em_len L k
      rw [hcd] at hp ⊢
      rw [List.length_append] at hp
      by_cases hlt : p < (cdTo L t k).length
      · rw [List.getElem?_append_left hlt]
        rcases ih hlt with ⟨h1, h2⟩ | ⟨i, h1, h2, h3, h4⟩
        · refine Or.inl ⟨h1, fun i hi hti => ?_⟩
          by_cases hik : i = k
          · subst hik; omega
          · exact h2 i (by omega) hti
        · exact Or.inr ⟨i, by omega, h2, h3, h4⟩
      · rw [List.getElem?_append_right (by omega)]
        by_cases hlast : p = posn L k
        · refine Or.inr ⟨k, by omega, ht, hlast.symm, ?_⟩
          have : p - (cdTo L t k).length = (em L k).length - 1 := by omega
          rw [this]
          unfold em
          split <;> simp
        · have hp0 : p - (cdTo L t k).length = 0 := by omega
          have h2 : (em L k).length = 2 := by omega
          refine Or.inl ⟨?_, fun i hi hti => ?_⟩
          · rw [hp0]
            unfold em at h2 ⊢
            split at h2
            · rename_i hf; rw [if_pos hf]; simp
            · simp at h2
          · by_cases hik : i = k
            · subst hik; exact fun e => hlast e.symm
            · have := posn_in L (show i < k by omega)
              rw [hti] at this
              omega
    · have hcd : cdTo L t (k + 1) = cdTo L t k := by rw [cdTo, if_neg ht, List.append_nil]
      rw [hcd] at hp ⊢
      rcases ih hp with ⟨h1, h2⟩ | ⟨i, h1, h2, h3, h4⟩
      · refine Or.inl ⟨h1, fun i hi hti => ?_⟩
        by_cases hik : i = k
        · subst hik; exact absurd hti ht
        · exact h2 i (by omega) hti
      · exact Or.inr ⟨i, by omega, h2, h3, h4⟩

theorem codeOf_length (L : List Nat) : (codeOf L).length = L.countP lT := by simp [codeOf]
theorem codeOf_at (L : List Nat) {t : Nat} (ht : t < L.countP lT) : (codeOf L)[t]?.getD [] = cdTo L t L.length := by simp [codeOf, ht]

theorem reg_le (L : List Nat) (i : Nat) : regOf L i ≤ i := by
  have := List.countP_le_length (p := fun k => thrOf L k == thrOf L i && !kd L k) (l := List.range i)
  rw [List.length_range] at this
  exact this
/-- the registers of a thread's reads rise -/
theorem reg_lt (L : List Nat) {i j : Nat} (h : i < j) (ht : thrOf L i = thrOf L j) (hk : kd L i = false) : regOf L i < regOf L j := by
  unfold regOf
  have h1 : List.range j = List.range (i + 1) ++ (List.range j).drop (i + 1) := by
    conv => lhs; rw [← List.take_append_drop (i + 1) (List.range j)]
    rw [List.take_range, Nat.min_eq_left (by omega)]
  rw [h1, List.countP_append, List.range_succ, List.countP_append, ← ht]
  have : List.countP (fun k => thrOf L k == thrOf L i && !kd L k) [i] = 1 := by simp [hk]
  omega

theorem mem_wrTo (L : List Nat) (n : Nat) (c : RCl) : c ∈ wrTo L n ↔ ∃ i, i < n ∧ kd L i = false ∧ lone L i = false ∧ c = ⟨(thrOf L i : Int), regOf L i, 0, vaOf L i⟩ := by
  induction n with
  | zero => simp [wrTo]
  | succ n ih =>
    rw [wrTo, List.mem_append, ih]
    constructor
    · rintro (⟨i, h1, h2⟩ | h)
      · exact ⟨i, by omega, h2⟩
      · split at h
        · rename_i hc
          rw [Bool.and_eq_true] at hc
          simp only [List.mem_singleton] at h
          exact ⟨n, by omega, by simpa using hc.1, by simpa using hc.2, h⟩
        · cases h
    · rintro ⟨i, h1, h2, h3, h4⟩
      by_cases hin : i = n
      · subst hin
        rw [h2, h3]
        exact Or.inr (by simpa using h4)
      · exact Or.inl ⟨i, by omega, h2, h3, h4⟩
theorem mem_wcTo (L : List Nat) (n : Nat) (c : RCl) : c ∈ wcTo L n ↔ ∃ i, i < n ∧ wrs L i = 2 ∧ c = ⟨-1, 0, i, 2⟩ := by
  induction n with
  | zero => simp [wcTo]
  | succ n ih =>
    rw [wcTo, List.mem_append, ih]
    constructor
    · rintro (⟨i, h1, h2⟩ | h)
      · exact ⟨i, by omega, h2⟩
      · split at h
        · rename_i hc
          simp only [List.mem_singleton] at h
          exact ⟨n, by omega, hc, h⟩
        · cases h
    · rintro ⟨i, h1, h2, h4⟩
      by_cases hin : i = n
      · subst hin
        rw [if_pos h2]
        exact Or.inr (by simpa using h4)
      · exact Or.inl ⟨i, by omega, h2, h4⟩

theorem clAt_reg (T t r v : Nat) : clAt T ⟨(t : Int), r, 0, v⟩ = t * 16 + r := by
  unfold clAt
  rw [if_neg (by dsimp only; omega)]
  simp
theorem clAt_cell (T c v : Nat) : clAt T ⟨-1, 0, c, v⟩ = T * 16 + c := by
  unfold clAt
  rw [if_pos (by dsimp only; omega)]

/-- the claims are met: of the reads, and of the cells with two writes -/
theorem met_iff (L : List Nat) (T : Nat) (e : List Nat) : metS T (wantOf L) e = true ↔
    (∀ i, i < L.length → kd L i = false → lone L i = false → e[thrOf L i * 16 + regOf L i]?.getD 0 = vaOf L i) ∧ (∀ c, c < L.countP lC → wrs L c = 2 → e[T * 16 + c]?.getD 0 = 2) := by
  unfold metS wantOf
  rw [List.all_append, Bool.and_eq_true, List.all_eq_true, List.all_eq_true]
  constructor
  · rintro ⟨h1, h2⟩
    refine ⟨fun i hi hk hl => ?_, fun c hc hw => ?_⟩
    · have := h1 _ ((mem_wrTo L _ _).2 ⟨i, hi, hk, hl, rfl⟩)
      rw [clAt_reg] at this
      simpa using this
    · have := h2 _ ((mem_wcTo L _ _).2 ⟨c, hc, hw, rfl⟩)
      rw [clAt_cell] at this
      simpa using this
  · rintro ⟨h1, h2⟩
    refine ⟨fun c hc => ?_, fun c hc => ?_⟩
    · obtain ⟨i, hi, hk, hl, rfl⟩ := (mem_wrTo L _ _).1 hc
      have := h1 i hi hk hl
      rw [clAt_reg]
      simpa using this
    · obtain ⟨i, hi, hw, rfl⟩ := (mem_wcTo L _ _).1 hc
      have := h2 i hi hw
      rw [clAt_cell]
      simpa using this

end Go.Proofs.YtokfiflflcfidabDoor
