import Derived.Test.YtokfiflflcfidaaDoorPlain
import Derived.Test.YtokfiflflcfidaaDoorCells
import Derived.Test.YtokfiflflcfidaaDoorLawA
import Derived.Test.YtokfiflflcfidaaDoorLawB
import Derived.Test.YtokfiflflcfidaaDoorRot
import Derived.Test.YtokfiflflcfidaaDoorTx
import Derived.Test.YtokfiflflcfidaaDoorListM
import Derived.Test.YtokfiflflcfidaaDoorListR
namespace Go.Proofs.YtokfiflflcfidaaDoor
open Go.RowKit

/-- a is listed ahead of b -/
def Ahead (a b : List Nat) : Prop := a.length < b.length ∨ (a.length = b.length ∧ lexLt a b = true)

theorem lexLt_append {a b : List Nat} (h : lexLt a b = true) (hl : a.length = b.length) (x y : List Nat) : lexLt (a ++ x) (b ++ y) = true := by
  induction a generalizing b with
  | nil => cases b with
    | nil => cases h
    | cons y b => simp at hl
  | cons e a ih => cases b with
    | nil => simp at hl
    | cons f b =>
      simp only [List.cons_append, lexLt] at h ⊢
      by_cases hef : e = f
      · rw [if_pos hef] at h ⊢; exact ih h (by simpa using hl)
      · rw [if_neg hef] at h ⊢; exact h
theorem lexLt_snoc (h : List Nat) {e f : Nat} (hef : e < f) : lexLt (h ++ [e]) (h ++ [f]) = true := by
  induction h with
  | nil => simp only [List.nil_append, lexLt]; rw [if_neg (by omega)]; simpa using hef
  | cons a h ih => simp only [List.cons_append, lexLt]; rw [if_pos trivial]; exact ih
theorem nxt_pair (p : List Nat → Nat → Bool) (h : List Nat) : (nxt p h).Pairwise fun a b => lexLt a b = true := by
  unfold nxt nxtTo
  rw [List.pairwise_map]
  refine List.Pairwise.filter _ ?_
  exact List.Pairwise.imp (fun hab => lexLt_snoc h hab) List.pairwise_lt_range
theorem lev_pair (p : List Nat → Nat → Bool) (k : Nat) : (lev p k).Pairwise fun a b => lexLt a b = true := by
  induction k with
  | zero => simp [lev]
  | succ k ih =>
    rw [lev, List.pairwise_flatMap]
    refine ⟨fun h _ => nxt_pair p h, ?_⟩
    refine List.Pairwise.imp_of_mem ?_ ih
    intro a b ha hb hab x hx y hy
    obtain ⟨e, _, _, rfl⟩ := mem_nxtTo hx
    obtain ⟨f, _, _, rfl⟩ := mem_nxtTo hy
    exact lexLt_append hab ((mem_lev ha).1.trans (mem_lev hb).1.symm) _ _
theorem mem_ext {n : Nat} {l : List Nat} (h : l ∈ ext n []) : l.length = n ∧ (∀ x ∈ l, x < 14) ∧ isB l = true := by
  unfold ext at h
  rw [← lev_eq, List.mem_filter] at h
  exact ⟨(mem_lev h.1).1, (mem_lev h.1).2, h.2⟩
theorem mem_basesTo {n : Nat} {l : List Nat} : l ∈ basesTo n ↔ 0 < l.length ∧ l.length ≤ n ∧ l ∈ ext l.length [] := by
  induction n with
  | zero =>
    constructor
    · intro h; simp [basesTo] at h
    · rintro ⟨h1, h2, _⟩; omega
  | succ n ih =>
    rw [basesTo, List.mem_append, ih]
    constructor
    · rintro (⟨h1, h2, h3⟩ | h)
      · exact ⟨h1, by omega, h3⟩
      · have := (mem_ext h).1
        refine ⟨by omega, by omega, by rw [this]; exact h⟩
    · rintro ⟨h1, h2, h3⟩
      by_cases hl : l.length = n + 1
      · right; rw [hl] at h3; exact h3
      · left; exact ⟨h1, by omega, h3⟩
theorem basesTo_pair (n : Nat) : (basesTo n).Pairwise Ahead := by
  induction n with
  | zero => simp [basesTo]
  | succ n ih =>
    rw [basesTo, List.pairwise_append]
    refine ⟨ih, ?_, ?_⟩
    · have : (ext (n + 1) []).Pairwise fun a b => lexLt a b = true := by
        unfold ext
        rw [← lev_eq]
        exact List.Pairwise.filter _ (lev_pair _ _)
      refine List.Pairwise.imp_of_mem ?_ this
      intro a b ha hb hab
      exact Or.inr ⟨(mem_ext ha).1.trans (mem_ext hb).1.symm, hab⟩
    · intro a ha b hb
      have h1 := (mem_basesTo.1 ha).2.1
      have h2 := (mem_ext hb).1
      exact Or.inl (by omega)
theorem basesTo_ok {n : Nat} {l : List Nat} (h : l ∈ basesTo n) : chk l = (0, 0) ∧ leastOf l = l ∧ (∀ x ∈ l, x < 14) ∧ 4 ≤ l.length ∧ l.length ≤ n := by
  obtain ⟨h1, h2, h3⟩ := mem_basesTo.1 h
  obtain ⟨_, h4, h5⟩ := mem_ext h3
  obtain ⟨h6, h7⟩ := isB_iff.1 h5
  exact ⟨h6, h7, h4, chk_four l h6, h2⟩
theorem basesTo_small (n : Nat) (h : n < 4) : basesTo n = [] := by
  cases hb : basesTo n with
  | nil => rfl
  | cons a l =>
    have := basesTo_ok (n := n) (l := a) (by rw [hb]; simp)
    omega

theorem take_lev (l : List Nat) (hE : ∀ x ∈ l, x < 14) (h : ∀ i, i < l.length → jn l i = true) (k : Nat) (hk : k ≤ l.length) : l.take k ∈ lev jP k := by
  induction k with
  | zero => simp [lev]
  | succ k ih =>
    simp only [lev, List.mem_flatMap]
    refine ⟨l.take k, ih (by omega), ?_⟩
    rw [take_snoc l k (by omega)]
    simp only [nxt, nxtTo, List.mem_map, List.mem_filter, List.mem_range]
    refine ⟨l[k]?.getD 0, ⟨getD_lt hE k, ?_⟩, rfl⟩
    unfold jP
    by_cases h0 : k = 0
    · subst h0; rfl
    · have h1 := h k (by omega)
      unfold jn at h1
      rw [show k + l.length - 1 = (k - 1) + l.length from by omega, Nat.add_mod_right, Nat.mod_eq_of_lt (by omega)] at h1
      have e1 : lastE (l.take k) = l[k - 1]?.getD 0 := by
        unfold lastE
        rw [List.length_take, Nat.min_eq_left (by omega), List.getElem?_take, if_pos (by omega)]
      rw [e1, h1, Bool.or_true]
theorem mem_basesTo_of {l : List Nat} (hE : ∀ x ∈ l, x < 14) (hc : chk l = (0, 0)) (hL : leastOf l = l) (n : Nat) : l ∈ basesTo n ↔ l.length ≤ n := by
  rw [mem_basesTo]
  have hl := chk_pos hc
  constructor
  · exact fun h => h.2.1
  · intro h
    refine ⟨hl, h, ?_⟩
    unfold ext
    rw [← lev_eq, List.mem_filter]
    refine ⟨?_, isB_iff.2 ⟨hc, hL⟩⟩
    have := take_lev l hE ((unj_full l).1 ((chk_zero_iff l).1 hc).1) l.length (Nat.le_refl _)
    rwa [List.take_length] at this

/-- one name is less than another at byte c -/
def nmLess (e f : Nat) : Bool := (List.range 3).any fun c => (List.range c).all (fun i => (nmL e)[i]?.getD 0 == (nmL f)[i]?.getD 0) && decide ((nmL e)[c]?.getD 0 < (nmL f)[c]?.getD 0)
theorem nmLess_all : ∀ e, e < 14 → ∀ f, f < 14 → e < f → nmLess e f = true := by decide
theorem lexLt_first {a b : List Nat} (h : lexLt a b = true) (hl : a.length = b.length) : ∃ j, j < a.length ∧ (∀ i, i < j → a[i]?.getD 0 = b[i]?.getD 0) ∧ a[j]?.getD 0 < b[j]?.getD 0 := by
  induction a generalizing b with
  | nil => cases b with
    | nil => cases h
    | cons y b => simp at hl
  | cons e a ih => cases b with
    | nil => simp at hl
    | cons f b =>
      simp only [lexLt] at h
      by_cases hef : e = f
      · rw [if_pos hef] at h
        obtain ⟨j, h1, h2, h3⟩ := ih h (by simpa using hl)
        refine ⟨j + 1, by simpa using h1, fun i hi => ?_, by simpa using h3⟩
        cases i with
        | zero => simpa using hef
        | succ i => simpa using h2 i (by omega)
      · rw [if_neg hef] at h
        exact ⟨0, by simp, fun i hi => absurd hi (by omega), by simpa using h⟩
theorem tx_first {a b : List Nat} (ha : ∀ x ∈ a, x < 14) (hb : ∀ x ∈ b, x < 14) (hl : a.length = b.length) (h : lexLt a b = true) :
    ∃ k, k < (tx a).length ∧ (∀ i, i < k → (tx a)[i]?.getD 0 = (tx b)[i]?.getD 0) ∧ (tx a)[k]?.getD 0 < (tx b)[k]?.getD 0 := by
  obtain ⟨j, hj, heq, hlt⟩ := lexLt_first h hl
  have hn := nmLess_all _ (getD_lt ha j) _ (getD_lt hb j) hlt
  unfold nmLess at hn
  rw [List.any_eq_true] at hn
  obtain ⟨c, hc, hcc⟩ := hn
  rw [List.mem_range] at hc
  rw [Bool.and_eq_true, List.all_eq_true, decide_eq_true_iff] at hcc
  have hla := tx_length a
  unfold tx
  refine ⟨4 * j + c, by rw [txTo_length]; omega, fun i hi => ?_, ?_⟩
  · rw [tx_at a _ i (by omega), tx_at b _ i (by omega)]
    by_cases h3 : i % 4 = 3
    · rw [if_pos h3, if_pos h3]
    · rw [if_neg h3, if_neg h3]
      by_cases hij : i / 4 < j
      · rw [heq _ hij]
      · have h4 : i / 4 = j := by omega
        rw [h4]
        have := hcc.1 (i % 4) (by rw [List.mem_range]; omega)
        simpa using this
  · rw [tx_at a _ _ (by omega), tx_at b _ _ (by omega), if_neg (by omega), if_neg (by omega), show (4 * j + c) / 4 = j from by omega, show (4 * j + c) % 4 = c from by omega]
    exact hcc.2

end Go.Proofs.YtokfiflflcfidaaDoor
