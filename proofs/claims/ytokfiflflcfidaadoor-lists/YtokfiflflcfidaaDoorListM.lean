import Derived.Test.YtokfiflflcfidaaDoorPlain
import Derived.Test.YtokfiflflcfidaaDoorCells
import Derived.Test.YtokfiflflcfidaaDoorLawA
import Derived.Test.YtokfiflflcfidaaDoorLawB
import Derived.Test.YtokfiflflcfidaaDoorRot
import Derived.Test.YtokfiflflcfidaaDoorTx
namespace Go.Proofs.YtokfiflflcfidaaDoor
open Go.RowKit

/-- is l a base at which Check answers OK? -/
def isB (l : List Nat) : Bool := (chk l).1 == 0 && !lexLt (leastOf l) l
theorem chk_pair {l : List Nat} : (chk l).1 = 0 ↔ chk l = (0, 0) := ⟨fun h => Prod.ext h (chk_zero h), fun h => by rw [h]⟩
theorem chk_pos {l : List Nat} (h : chk l = (0, 0)) : 0 < l.length := by have := chk_four l h; omega
theorem isB_iff {l : List Nat} : isB l = true ↔ chk l = (0, 0) ∧ leastOf l = l := by
  unfold isB
  rw [Bool.and_eq_true, beq_iff_eq, chk_pair]
  constructor
  · rintro ⟨h1, h2⟩
    refine ⟨h1, ?_⟩
    have hl := chk_pos h1
    refine lexLt_total (leastOf_length l) (by simpa using h2) ?_
    have := leastOf_min l hl 0
    rwa [turn_zero] at this
  · rintro ⟨h1, h2⟩
    exact ⟨h1, by rw [h2, lexLt_irrefl]; rfl⟩

/-- the edge ahead of what follows -/
def lastE (l : List Nat) : Nat := l[l.length - 1]?.getD 0
def jP (h : List Nat) (e : Nat) : Bool := h.isEmpty || bW e == eW (lastE h)
def cP (h : List Nat) (e : Nat) : Bool := h.isEmpty || (decide (h[0]?.getD 0 ≤ e) && bW e == eW (lastE h))
/-- h and one edge more, in all ways that p lets, the edges below n -/
def nxtTo (p : List Nat → Nat → Bool) (h : List Nat) (n : Nat) : List (List Nat) := ((List.range n).filter (p h)).map fun e => h ++ [e]
def nxt (p : List Nat → Nat → Bool) (h : List Nat) : List (List Nat) := nxtTo p h 14
def levF (p : List Nat → Nat → Bool) : Nat → List Nat → List (List Nat)
  | 0, l => [l]
  | d + 1, l => (nxt p l).flatMap (levF p d)
def lev (p : List Nat → Nat → Bool) : Nat → List (List Nat)
  | 0 => [[]]
  | k + 1 => (lev p k).flatMap (nxt p)
/-- the bases of d edges more than l that begin with l, the next edge below n -/
def extTo (d : Nat) (l : List Nat) (n : Nat) : List (List Nat) := (nxtTo jP l n).flatMap fun m => (levF jP d m).filter isB
def ext (d : Nat) (l : List Nat) : List (List Nat) := (levF jP d l).filter isB

theorem nxtTo_succ (p : List Nat → Nat → Bool) (h : List Nat) (n : Nat) : nxtTo p h (n + 1) = nxtTo p h n ++ if p h n then [h ++ [n]] else [] := by
  unfold nxtTo
  rw [List.range_succ, List.filter_append, List.map_append]
  congr 1
  cases hp : p h n <;> simp [hp]
theorem extTo_succ (d : Nat) (l : List Nat) (n : Nat) : extTo d l (n + 1) = extTo d l n ++ if jP l n then ext d (l ++ [n]) else [] := by
  unfold extTo
  rw [nxtTo_succ, List.flatMap_append]
  congr 1
  cases hp : jP l n <;> simp [ext]
theorem ext_succ (d : Nat) (l : List Nat) : ext (d + 1) l = extTo d l 14 := by
  unfold ext extTo
  rw [levF, List.filter_flatMap]; rfl
theorem nxtTo_length (p : List Nat → Nat → Bool) (h : List Nat) (n : Nat) : (nxtTo p h n).length ≤ n := by
  unfold nxtTo
  rw [List.length_map]
  exact Nat.le_trans (List.length_filter_le _ _) (by simp)
theorem flatMap_length_le {α β : Type} (l : List α) (f : α → List β) (c : Nat) (h : ∀ x ∈ l, (f x).length ≤ c) : (l.flatMap f).length ≤ l.length * c := by
  induction l with
  | nil => simp
  | cons x l ih =>
    rw [List.flatMap_cons, List.length_append, List.length_cons, Nat.succ_mul]
    have := h x (by simp)
    have := ih fun y hy => h y (by simp [hy])
    omega
theorem levF_length (p : List Nat → Nat → Bool) (d : Nat) (l : List Nat) : (levF p d l).length ≤ 14 ^ d := by
  induction d generalizing l with
  | zero => simp [levF]
  | succ d ih =>
    rw [levF, Nat.pow_succ]
    have h1 := flatMap_length_le (nxt p l) (levF p d) (14 ^ d) fun x _ => ih x
    have h2 := nxtTo_length p l 14
    have h3 : (nxt p l).length * 14 ^ d ≤ 14 * 14 ^ d := Nat.mul_le_mul_right _ h2
    omega
theorem ext_length (d : Nat) (l : List Nat) : (ext d l).length ≤ 14 ^ d := Nat.le_trans (List.length_filter_le _ _) (levF_length _ _ _)
theorem extTo_length (d : Nat) (l : List Nat) (n : Nat) : (extTo d l n).length ≤ n * 14 ^ d := by
  have h1 := flatMap_length_le (nxtTo jP l n) (fun m => (levF jP d m).filter isB) (14 ^ d) fun x _ => Nat.le_trans (List.length_filter_le _ _) (levF_length _ _ _)
  have h3 : (nxtTo jP l n).length * 14 ^ d ≤ n * 14 ^ d := Nat.mul_le_mul_right _ (nxtTo_length _ _ _)
  exact Nat.le_trans h1 h3

theorem levF_end (p : List Nat → Nat → Bool) (d : Nat) (l : List Nat) : levF p (d + 1) l = (levF p d l).flatMap (nxt p) := by
  induction d generalizing l with
  | zero => simp [levF]
  | succ d ih =>
    rw [levF, levF, List.flatMap_assoc]
    congr 1
    funext x
    exact ih x
theorem lev_eq (p : List Nat → Nat → Bool) (n : Nat) : lev p n = levF p n [] := by
  induction n with
  | zero => rfl
  | succ n ih => rw [lev, ih, levF_end]
theorem lev_length (p : List Nat → Nat → Bool) (n : Nat) : (lev p n).length ≤ 14 ^ n := by rw [lev_eq]; exact levF_length _ _ _
theorem mem_nxtTo {p : List Nat → Nat → Bool} {h m : List Nat} {n : Nat} (hm : m ∈ nxtTo p h n) : ∃ e, e < n ∧ p h e = true ∧ m = h ++ [e] := by
  simp only [nxtTo, List.mem_map, List.mem_filter, List.mem_range] at hm
  obtain ⟨e, ⟨h1, h2⟩, rfl⟩ := hm
  exact ⟨e, h1, h2, rfl⟩
theorem mem_lev {p : List Nat → Nat → Bool} {k : Nat} {l : List Nat} (h : l ∈ lev p k) : l.length = k ∧ ∀ x ∈ l, x < 14 := by
  induction k generalizing l with
  | zero => simp [lev] at h; subst h; simp
  | succ k ih =>
    simp only [lev, List.mem_flatMap] at h
    obtain ⟨m, hm, hl⟩ := h
    obtain ⟨e, he, _, rfl⟩ := mem_nxtTo hl
    obtain ⟨h1, h2⟩ := ih hm
    refine ⟨by simp [h1], fun x hx => ?_⟩
    rcases List.mem_append.1 hx with hx | hx
    · exact h2 x hx
    · simp at hx; omega
theorem lev_zero (k : Nat) : List.replicate k 0 ∈ lev cP k := by
  induction k with
  | zero => simp [lev]
  | succ k ih =>
    simp only [lev, List.mem_flatMap]
    refine ⟨_, ih, ?_⟩
    simp only [nxt, nxtTo, List.mem_map, List.mem_filter, List.mem_range]
    refine ⟨0, ⟨by omega, ?_⟩, by rw [← List.replicate_succ']⟩
    cases k with
    | zero => rfl
    | succ k =>
      have : lastE (List.replicate (k + 1) 0) = 0 := by simp [lastE]
      simp [cP, this]
      decide
theorem lev_pos (k : Nat) : 0 < (lev cP k).length := List.length_pos_of_mem (lev_zero k)

/-- no edge is less than the first -/
def minF (l : List Nat) : Bool := l.all fun x => decide (l[0]?.getD 0 ≤ x)
theorem isB_minF {l : List Nat} (h : isB l = true) : minF l = true := by
  rw [isB_iff] at h
  have hl := chk_pos h.1
  have hL : Least l := by rw [← h.2]; exact leastOf_least l hl
  unfold minF
  rw [List.all_eq_true]
  intro x hx
  obtain ⟨i, hi, rfl⟩ := List.getElem_of_mem hx
  rw [decide_eq_true_iff]
  apply Nat.le_of_not_lt
  intro hlt
  have h1 := hL i
  rw [turn_eq l i (by omega), List.drop_eq_getElem_cons hi] at h1
  cases l with
  | nil => simp at hl
  | cons a l =>
    simp at hlt
    rw [List.cons_append] at h1
    simp only [lexLt] at h1
    rw [if_neg (by omega)] at h1
    simp at h1
    omega
theorem nxt_min (h : List Nat) : (nxt jP h).filter minF = if minF h then nxt cP h else [] := by
  unfold nxt nxtTo
  rw [List.filter_map]
  have key : ∀ e, minF (h ++ [e]) = (minF h && (h.isEmpty || decide (h[0]?.getD 0 ≤ e))) := by
    intro e
    cases h with
    | nil => simp [minF]
    | cons a h => simp [minF, List.all_append]
  by_cases hm : minF h = true
  · rw [if_pos hm]
    congr 1
    rw [List.filter_filter]
    congr 1
    funext e
    show (minF (h ++ [e]) && jP h e) = cP h e
    rw [key, hm, Bool.true_and]
    unfold jP cP
    cases h.isEmpty <;> simp
  · rw [if_neg hm]
    have hm' : minF h = false := by simpa using hm
    have : ∀ l : List Nat, (l.filter (minF ∘ fun e => h ++ [e])) = [] := by
      intro l
      rw [List.filter_eq_nil_iff]
      intro e _
      show ¬ (minF (h ++ [e]) = true)
      rw [key, hm']; simp
    rw [this]; rfl
theorem flatMap_filter {α β : Type} (l : List α) (p : α → Bool) (f : α → List β) : (l.filter p).flatMap f = l.flatMap fun x => if p x then f x else [] := by
  induction l with
  | nil => rfl
  | cons x l ih =>
    rw [List.filter_cons]
    cases hp : p x <;> simp [hp, ih]
theorem lev_min (n : Nat) : lev cP n = (lev jP n).filter minF := by
  induction n with
  | zero => rfl
  | succ n ih =>
    rw [lev, lev, ih, List.filter_flatMap, flatMap_filter]
    congr 1
    funext x
    rw [nxt_min]
/-- the bases of n edges, found either way -/
theorem lev_bases (n : Nat) : (lev cP n).filter isB = ext n [] := by
  unfold ext
  rw [← lev_eq, lev_min, List.filter_filter]
  congr 1
  funext l
  cases hb : isB l
  · rfl
  · rw [isB_minF hb]; rfl

/-- the bases of at most n edges -/
def basesTo : Nat → List (List Nat)
  | 0 => []
  | n + 1 => basesTo n ++ ext (n + 1) []

theorem basesTo_mono (k n : Nat) (h : k ≤ n) : (basesTo k).length ≤ (basesTo n).length := by
  induction n with
  | zero => rw [show k = 0 from by omega]; exact Nat.le_refl _
  | succ n ih =>
    by_cases hk : k = n + 1
    · rw [hk]; exact Nat.le_refl _
    · rw [basesTo, List.length_append]; have := ih (by omega); omega
/-- the bases of at most k edges, and of those of one edge more the ones found below j -/
def foundTo (k j : Nat) : List (List Nat) := basesTo k ++ ((lev cP (k + 1)).take j).filter isB
theorem foundTo_zero (k : Nat) : foundTo k 0 = basesTo k := by simp [foundTo]
theorem foundTo_succ (k j : Nat) (h : j < (lev cP (k + 1)).length) : foundTo k (j + 1) = foundTo k j ++ if isB ((lev cP (k + 1))[j]?.getD []) then [(lev cP (k + 1))[j]?.getD []] else [] := by
  unfold foundTo
  have : (lev cP (k + 1)).take (j + 1) = (lev cP (k + 1)).take j ++ [(lev cP (k + 1))[j]?.getD []] := by
    rw [List.take_succ_eq_append_getElem h]; simp [h]
  rw [this, List.filter_append, List.append_assoc]
  congr 1
  congr 1
  cases hb : isB ((lev cP (k + 1))[j]?.getD []) <;> simp [hb]
theorem foundTo_full (k : Nat) : foundTo k (lev cP (k + 1)).length = basesTo (k + 1) := by
  unfold foundTo
  rw [List.take_length, lev_bases]; rfl
theorem foundTo_le (k n j : Nat) (h : k < n) : (foundTo k j).length ≤ (basesTo n).length := by
  have h1 := basesTo_mono (k + 1) n h
  rw [← foundTo_full] at h1
  refine Nat.le_trans ?_ h1
  unfold foundTo
  rw [List.length_append, List.length_append, List.take_length]
  have : (((lev cP (k + 1)).take j).filter isB).length ≤ ((lev cP (k + 1)).filter isB).length := by
    rw [← List.countP_eq_length_filter, ← List.countP_eq_length_filter]
    exact (List.take_sublist j _).countP_le
  omega

end Go.Proofs.YtokfiflflcfidaaDoor
