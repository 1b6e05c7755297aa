import Derived.Test.YtokfiflflcfidabDoorPlain
import Derived.Test.YtokfiflflcfidabDoorMem
import Derived.Test.YtokfiflflcfidabDoorEvMem
import Derived.Test.YtokfiflflcfidabDoorRefC
namespace Go.Proofs.YtokfiflflcfidabDoor
open Go.RowKit

def b1 (b : Bool) : Nat := if b then 1 else 0
/-- how many edges of l end at a write of cell c, k cells having been left -/
def wc (C c : Nat) : Nat → List Nat → Nat
  | _, [] => 0
  | k, e :: l => b1 (eW e && (k + b1 (lC e)) % C == c) + wc C c (k + b1 (lC e)) l
/-- how many events of l write cell c -/
def ec (C c : Nat) : Nat → List Nat → Nat
  | _, [] => 0
  | k, e :: l => b1 (bW e && k % C == c) + ec C c (k + b1 (lC e)) l
/-- the same as wc, cells not taken modulo -/
def w1 (c : Nat) : Nat → List Nat → Nat
  | _, [] => 0
  | k, e :: l => b1 (eW e && k + b1 (lC e) == c) + w1 c (k + b1 (lC e)) l

theorem countP_cons' (p : Nat → Bool) (e : Nat) (l : List Nat) : (e :: l).countP p = b1 (p e) + l.countP p := by
  rw [List.countP_cons]; unfold b1; omega

theorem wc_append (C c : Nat) (a b : List Nat) (k : Nat) : wc C c k (a ++ b) = wc C c k a + wc C c (k + a.countP lC) b := by
  induction a generalizing k with
  | nil => simp [wc]
  | cons e a ih => rw [List.cons_append, wc, wc, ih, countP_cons', Nat.add_assoc, Nat.add_assoc]
theorem ec_append (C c : Nat) (a b : List Nat) (k : Nat) : ec C c k (a ++ b) = ec C c k a + ec C c (k + a.countP lC) b := by
  induction a generalizing k with
  | nil => simp [ec]
  | cons e a ih => rw [List.cons_append, ec, ec, ih, countP_cons', Nat.add_assoc, Nat.add_assoc]

theorem mod_shift (C k c d : Nat) (hc : c < C) : ((k + d) % C == (c + d) % C) = (k % C == c) := by
  have h1 : (k + d) % C = (k % C + d) % C := by rw [Nat.mod_add_mod]
  have hk : k % C < C := Nat.mod_lt _ (by omega)
  rw [h1, Bool.eq_iff_iff, beq_iff_eq, beq_iff_eq]
  constructor
  · intro h
    have h2 : (k % C + d) % C = (c + d) % C := h
    have h3 := Nat.add_mod (k % C) d C
    by_cases hlt : k % C = c
    · exact hlt
    · exfalso
      have e1 : ((k % C + d) + (C - d % C)) % C = ((c + d) + (C - d % C)) % C := by rw [Nat.add_mod, h2, ← Nat.add_mod]
      have hd : d % C < C := Nat.mod_lt _ (by omega)
      have hdd := Nat.div_add_mod d C
      have e2 : (k % C + d) + (C - d % C) = k % C + C * (d / C + 1) := by rw [Nat.mul_add]; omega
      have e3 : (c + d) + (C - d % C) = c + C * (d / C + 1) := by rw [Nat.mul_add]; omega
      rw [e2, e3, Nat.add_mul_mod_self_left, Nat.add_mul_mod_self_left, Nat.mod_eq_of_lt hk, Nat.mod_eq_of_lt hc] at e1
      exact hlt e1
  · intro h; rw [h]
theorem wc_shift (C c d : Nat) (hc : c < C) (l : List Nat) (k : Nat) : wc C ((c + d) % C) (k + d) l = wc C c k l := by
  induction l generalizing k with
  | nil => rfl
  | cons e l ih =>
    rw [wc, wc, show k + d + b1 (lC e) = k + b1 (lC e) + d from by omega, mod_shift C _ c d hc, ih]
theorem wc_period (C c : Nat) (l : List Nat) (k : Nat) : wc C c (k + C) l = wc C c k l := by
  induction l generalizing k with
  | nil => rfl
  | cons e l ih => rw [wc, wc, show k + C + b1 (lC e) = k + b1 (lC e) + C from by omega, Nat.add_mod_right, ih]

/-- a cell with more than two writes -/
def big (l : List Nat) : Prop := ∃ c, c < l.countP lC ∧ 2 < wc (l.countP lC) c 0 l
theorem big_swap {a b : List Nat} (h : big (b ++ a)) : big (a ++ b) := by
  obtain ⟨c, hc, hw⟩ := h
  have hC : (b ++ a).countP lC = (a ++ b).countP lC := by rw [List.countP_append, List.countP_append, Nat.add_comm]
  rw [hC] at hc hw
  have hCe : (a ++ b).countP lC = a.countP lC + b.countP lC := List.countP_append
  unfold big
  generalize (a ++ b).countP lC = C at *
  refine ⟨(c + a.countP lC) % C, Nat.mod_lt _ (by omega), ?_⟩
  rw [wc_append] at hw ⊢
  have h1 : wc C ((c + a.countP lC) % C) (0 + a.countP lC) b = wc C c 0 b := wc_shift C c _ hc b 0
  have h2 : wc C ((c + a.countP lC) % C) 0 a = wc C c (0 + b.countP lC) a := by
    rw [← wc_period, show 0 + C = 0 + b.countP lC + a.countP lC from by omega]
    exact wc_shift C c _ hc a _
  rw [h1, h2]
  omega
theorem big_turn (l : List Nat) (k : Nat) (h : k ≤ l.length) : big (turn l k) ↔ big l := by
  rw [turn_eq l k h]
  constructor
  · intro hb; have := big_swap hb; rwa [List.take_append_drop] at this
  · intro hb; rw [← List.take_append_drop k l] at hb; exact big_swap hb

/-- p: the kind of the event at which l begins; each edge begins where the one ahead of it ends -/
def J : Bool → List Nat → Prop
  | _, [] => True
  | p, e :: l => bW e = p ∧ J (eW e) l
/-- the kind of the event at which l ends -/
def endk : Bool → List Nat → Bool
  | p, [] => p
  | _, e :: l => endk (eW e) l
theorem J_append (a b : List Nat) (p : Bool) : J p (a ++ b) ↔ J p a ∧ J (endk p a) b := by
  induction a generalizing p with
  | nil => simp [J, endk]
  | cons e a ih => rw [List.cons_append, J, J, endk, ih]; exact ⟨fun ⟨h1, h2, h3⟩ => ⟨⟨h1, h2⟩, h3⟩, fun ⟨⟨h1, h2⟩, h3⟩ => ⟨h1, h2, h3⟩⟩
theorem endk_append (a b : List Nat) (p : Bool) : endk p (a ++ b) = endk (endk p a) b := by
  induction a generalizing p with
  | nil => rfl
  | cons e a ih => rw [List.cons_append, endk, endk, ih]
/-- a closed cycle -/
def Cyc (l : List Nat) : Prop := ∃ p, J p l ∧ endk p l = p
theorem Cyc_swap {a b : List Nat} (h : Cyc (a ++ b)) : Cyc (b ++ a) := by
  obtain ⟨p, hJ, he⟩ := h
  rw [J_append] at hJ
  rw [endk_append] at he
  refine ⟨endk p a, (J_append _ _ _).2 ⟨hJ.2, ?_⟩, ?_⟩
  · rw [he]; exact hJ.1
  · rw [endk_append, he]
theorem Cyc_turn (l : List Nat) (k : Nat) (hk : k ≤ l.length) (h : Cyc l) : Cyc (turn l k) := by
  rw [turn_eq l k hk]
  apply Cyc_swap
  rwa [List.take_append_drop]
theorem ec_wc (C c : Nat) (l : List Nat) (p : Bool) (k : Nat) (hJ : J p l) : ec C c k l + b1 (endk p l && (k + l.countP lC) % C == c) = b1 (p && k % C == c) + wc C c k l := by
  induction l generalizing p k with
  | nil => simp [ec, wc, endk]
  | cons e l ih =>
    have := ih (eW e) (k + b1 (lC e)) hJ.2
    rw [ec, wc, endk, countP_cons', hJ.1]
    rw [Nat.add_assoc] at this
    omega
theorem ec_cyc (C c : Nat) (l : List Nat) (hC : l.countP lC = C) (h : Cyc l) : ec C c 0 l = wc C c 0 l := by
  obtain ⟨p, hJ, he⟩ := h
  have := ec_wc C c l p 0 hJ
  rw [he, hC, Nat.zero_add, Nat.mod_self, Nat.zero_mod] at this
  omega

theorem J_of (l : List Nat) (p : Bool) (h : ∀ i, i < l.length → bW (l[i]?.getD 0) = if i = 0 then p else eW (l[i - 1]?.getD 0)) : J p l := by
  induction l generalizing p with
  | nil => trivial
  | cons e l ih =>
    refine ⟨by simpa using h 0 (by simp), ih _ fun i hi => ?_⟩
    have := h (i + 1) (by simpa using hi)
    by_cases h0 : i = 0
    · subst h0; simpa using this
    · rw [if_neg h0]
      rw [if_neg (by omega)] at this
      have e1 : i + 1 - 1 = (i - 1) + 1 := by omega
      rw [e1] at this
      simpa using this
theorem endk_last (l : List Nat) (p : Bool) (h : 0 < l.length) : endk p l = eW (l[l.length - 1]?.getD 0) := by
  induction l generalizing p with
  | nil => simp at h
  | cons e l ih =>
    rw [endk]
    by_cases h0 : 0 < l.length
    · rw [ih _ h0]
      have e1 : (e :: l).length - 1 = (l.length - 1) + 1 := by simp; omega
      rw [e1]; simp
    · have : l = [] := List.eq_nil_of_length_eq_zero (by omega)
      subst this; simp [endk]
theorem Cyc_of (l : List Nat) (hl : 0 < l.length) (h : ¬ unj l < l.length) : Cyc l := by
  have hall : ∀ i, i < l.length → jn l i = true := by
    intro i hi
    exact firstNo_yes (jn l) l.length i (by unfold unj at h; omega)
  refine ⟨eW (l[l.length - 1]?.getD 0), J_of l _ fun i hi => ?_, endk_last l _ hl⟩
  have h1 := hall i hi
  unfold jn at h1
  rw [beq_iff_eq] at h1
  rw [h1]
  by_cases h0 : i = 0
  · subst h0
    rw [if_pos rfl, Nat.zero_add, Nat.mod_eq_of_lt (by omega)]
  · rw [if_neg h0, show i + l.length - 1 = (i - 1) + l.length from by omega, Nat.add_mod_right, Nat.mod_eq_of_lt (by omega)]

theorem w1_low (c : Nat) (l : List Nat) (k : Nat) (h : c < k) : w1 c k l = 0 := by
  induction l generalizing k with
  | nil => rfl
  | cons e l ih =>
    rw [w1, ih _ (by omega), show (k + b1 (lC e) == c) = false from by rw [beq_eq_false_iff_ne]; omega, Bool.and_false]; rfl
theorem w1_high (c : Nat) (l : List Nat) (k : Nat) (h : k + l.countP lC < c) : w1 c k l = 0 := by
  induction l generalizing k with
  | nil => rfl
  | cons e l ih =>
    rw [countP_cons'] at h
    rw [w1, ih _ (by omega), show (k + b1 (lC e) == c) = false from by rw [beq_eq_false_iff_ne]; omega, Bool.and_false]; rfl
theorem mcw_fold (l : List Nat) (m q k : Nat) (hqm : q ≤ m) : 2 < (l.foldl mcwStep (m, q)).1 ↔ 2 < m ∨ 2 < q + w1 k k l ∨ ∃ c, k < c ∧ 2 < w1 c k l := by
  induction l generalizing m q k with
  | nil =>
    simp only [List.foldl_nil, w1]
    constructor
    · intro h; exact Or.inl h
    · rintro (h | h | ⟨c, _, h⟩) <;> omega
  | cons e l ih =>
    rw [List.foldl_cons]
    have hst : mcwStep (m, q) e = (if m < wrOf (m, q) e then wrOf (m, q) e else m, wrOf (m, q) e) := rfl
    rw [hst, ih _ _ (k + b1 (lC e)) (by split <;> omega)]
    have hmax : (2 < if m < wrOf (m, q) e then wrOf (m, q) e else m) ↔ 2 < m ∨ 2 < wrOf (m, q) e := by split <;> omega
    rw [hmax]
    have hw : wrOf (m, q) e = (if lC e then 0 else q) + b1 (eW e) := rfl
    simp only [w1]
    cases hc : lC e
    · have hb : b1 false = 0 := rfl
      rw [hc] at hw
      simp only [Bool.false_eq_true, if_false] at hw
      rw [hw, hb, Nat.add_zero, show (k == k) = true from beq_self_eq_true k, Bool.and_true]
      constructor
      · rintro ((h | h) | h | ⟨c, h1, h2⟩)
        · exact Or.inl h
        · exact Or.inr (Or.inl (by omega))
        · exact Or.inr (Or.inl (by omega))
        · exact Or.inr (Or.inr ⟨c, h1, by omega⟩)
      · rintro (h | h | ⟨c, h1, h2⟩)
        · exact Or.inl (Or.inl h)
        · exact Or.inr (Or.inl (by omega))
        · refine Or.inr (Or.inr ⟨c, h1, ?_⟩)
          rw [show (k == c) = false from by rw [beq_eq_false_iff_ne]; omega, Bool.and_false] at h2
          have : b1 false = 0 := rfl
          omega
    · have hb : b1 true = 1 := rfl
      rw [hc] at hw
      simp only [if_true, Nat.zero_add] at hw
      have hle : b1 (eW e) ≤ 1 := by unfold b1; split <;> omega
      have hlow := w1_low k l (k + 1) (by omega)
      rw [hw, hb, hlow, show (k + 1 == k) = false from by rw [beq_eq_false_iff_ne]; omega, Bool.and_false]
      have hb0 : b1 false = 0 := rfl
      rw [hb0]
      constructor
      · rintro ((h | h) | h | ⟨c, h1, h2⟩)
        · exact Or.inl h
        · omega
        · refine Or.inr (Or.inr ⟨k + 1, by omega, ?_⟩)
          rw [beq_self_eq_true, Bool.and_true]; omega
        · exact Or.inr (Or.inr ⟨c, by omega, by omega⟩)
      · rintro (h | h | ⟨c, h1, h2⟩)
        · exact Or.inl (Or.inl h)
        · omega
        · by_cases hck : c = k + 1
          · subst hck
            rw [beq_self_eq_true, Bool.and_true] at h2
            exact Or.inr (Or.inl (by omega))
          · refine Or.inr (Or.inr ⟨c, by omega, ?_⟩)
            rw [show (k + 1 == c) = false from by rw [beq_eq_false_iff_ne]; omega, Bool.and_false, hb0] at h2
            omega
theorem wc_w1 (C c : Nat) (l : List Nat) (k : Nat) (hk : 1 ≤ k) (hkC : k + l.countP lC ≤ C) (hc1 : 1 ≤ c) (hc2 : c ≤ C) : wc C (c % C) k l = w1 c k l := by
  induction l generalizing k with
  | nil => rfl
  | cons e l ih =>
    rw [countP_cons'] at hkC
    rw [wc, w1, ih _ (by omega) (by omega)]
    have : ((k + b1 (lC e)) % C == c % C) = (k + b1 (lC e) == c) := by
      have h1 : 1 ≤ k + b1 (lC e) := by omega
      have h2 : k + b1 (lC e) ≤ C := by omega
      generalize k + b1 (lC e) = x at *
      rw [Bool.eq_iff_iff, beq_iff_eq, beq_iff_eq]
      constructor
      · intro h
        by_cases hx : x = C
        · subst hx
          rw [Nat.mod_self] at h
          by_cases hcx : c = x
          · omega
          · rw [Nat.mod_eq_of_lt (by omega)] at h; omega
        · rw [Nat.mod_eq_of_lt (by omega)] at h
          by_cases hcx : c = C
          · rw [hcx, Nat.mod_self] at h; omega
          · rw [Nat.mod_eq_of_lt (by omega)] at h; exact h
      · intro h; rw [h]
    rw [this]

theorem mcw_big (l : List Nat) (hC : 0 < l.countP lC) : 2 < mcw l ↔ big l := by
  have hlt : firstNo (fun i => !lC (l[i]?.getD 0)) l.length < l.length := by
    obtain ⟨x, hx, hcx⟩ := List.countP_pos_iff.1 hC
    obtain ⟨i, hi, rfl⟩ := List.getElem_of_mem hx
    apply Nat.lt_of_not_le
    intro hge
    have := firstNo_yes (fun i => !lC (l[i]?.getD 0)) l.length i (by omega)
    simp [hi, hcx] at this
  have hno := firstNo_no _ _ hlt
  have hf : flc l = firstNo (fun i => !lC (l[i]?.getD 0)) l.length := by unfold flc; rw [if_pos hlt]
  rw [← hf] at hno hlt
  have hCt := countP_turn lC l (flc l) (by omega)
  have hlen := turn_length l (flc l)
  rw [← big_turn l (flc l) (by omega)]
  unfold mcw mcwTo
  rw [← hlen, List.take_length]
  have hhead : ∃ e t, turn l (flc l) = e :: t ∧ lC e = true := by
    rw [turn_eq l _ (by omega), List.drop_eq_getElem_cons hlt]
    refine ⟨_, _, rfl, ?_⟩
    simpa [hlt] using hno
  obtain ⟨e, t, ht, he⟩ := hhead
  rw [ht, mcw_fold _ 0 0 0 (Nat.le_refl _)]
  unfold big
  rw [ht] at hCt
  have hcc : (e :: t).countP lC = 1 + t.countP lC := by rw [countP_cons', he]; rfl
  have hw0 : w1 0 0 (e :: t) = 0 := by
    rw [w1, he, show b1 true = 1 from rfl, w1_low 0 t (0 + 1) (by omega), show (0 + 1 == 0) = false from rfl, Bool.and_false]; rfl
  have hwc : ∀ c, 1 ≤ c → c ≤ (e :: t).countP lC → wc ((e :: t).countP lC) (c % (e :: t).countP lC) 0 (e :: t) = w1 c 0 (e :: t) := by
    intro c h1 h2
    rw [wc, w1, he, show b1 true = 1 from rfl]
    rw [wc_w1 _ c t (0 + 1) (by omega) (by omega) h1 h2]
    have : ((0 + 1) % (e :: t).countP lC == c % (e :: t).countP lC) = (0 + 1 == c) := by
      generalize (e :: t).countP lC = C at *
      rw [Bool.eq_iff_iff, beq_iff_eq, beq_iff_eq]
      constructor
      · intro h
        by_cases hC1 : C = 1
        · omega
        · rw [Nat.mod_eq_of_lt (by omega)] at h
          by_cases hcC : c = C
          · rw [hcC, Nat.mod_self] at h; omega
          · rw [Nat.mod_eq_of_lt (by omega)] at h; exact h
      · intro h; rw [h]
    rw [this]
  rw [hw0]
  constructor
  · rintro (h | h | ⟨c, h1, h2⟩)
    · omega
    · omega
    · have hcle : c ≤ (e :: t).countP lC := by
        apply Nat.le_of_not_lt
        intro hgt
        rw [w1_high c (e :: t) 0 (by omega)] at h2
        omega
      exact ⟨c % (e :: t).countP lC, Nat.mod_lt _ (by omega), by rw [hwc c h1 hcle]; exact h2⟩
  · rintro ⟨c, h1, h2⟩
    refine Or.inr (Or.inr ?_)
    by_cases hc0 : c = 0
    · subst hc0
      refine ⟨(e :: t).countP lC, by omega, ?_⟩
      rw [← hwc _ (by omega) (Nat.le_refl _), Nat.mod_self]; exact h2
    · refine ⟨c, by omega, ?_⟩
      rw [← hwc _ (by omega) (by omega), Nat.mod_eq_of_lt h1]; exact h2

theorem countP_stat {a b : List Ev} (h : Stat a b) (c : Nat) : b.countP (isW c) = a.countP (isW c) := by
  have e1 : b.map (fun e => e.wr && e.ce == c) = a.map (fun e => e.wr && e.ce == c) := by
    apply List.ext_getElem
    · simp [h.1]
    · intro i h1 h2
      simp only [List.length_map] at h1 h2
      have := h.2 i
      simp [h1, h2] at this
      simp [this.1, this.2.2.1]
  have e2 : ∀ l : List Ev, l.countP (isW c) = (l.map (fun e => e.wr && e.ce == c)).countP id := by
    intro l; rw [List.countP_map]; rfl
  rw [e2, e2, e1]
theorem evsTo_ec (l : List Nat) (C c n : Nat) (hn : n ≤ l.length) : (evsTo l C n).countP (isW c) = ec C c 0 (l.take n) := by
  induction n with
  | zero => rfl
  | succ n ih =>
    rw [evsTo_succ, List.countP_append, ih (by omega), take_snoc l n (by omega), ec_append]
    simp only [ec, List.countP_cons, List.countP_nil, isW, evS, b1, Nat.zero_add, Nat.add_zero]
    rfl
theorem events_ec (base : List Nat) (c : Nat) : (eventsOf base).countP (isW c) = ec ((turn base (outTo base base.length % base.length)).countP lC) c 0 (turn base (outTo base base.length % base.length)) := by
  unfold eventsOf eventsL
  rw [countP_stat (Stat.cell _ _), evsTo_ec _ _ _ _ (Nat.le_refl _), List.take_length]

theorem leastTo_is (l : List Nat) (n : Nat) (h : n < l.length) : ∃ r, r < l.length ∧ leastTo l n = turn l r := by
  induction n with
  | zero => exact ⟨0, h, (turn_zero l).symm⟩
  | succ n ih =>
    simp only [leastTo]
    split
    · exact ⟨n + 1, h, rfl⟩
    · exact ih (by omega)
theorem leastOf_is (l : List Nat) (h : 0 < l.length) : ∃ r, r < l.length ∧ leastOf l = turn l r := leastTo_is l _ (by omega)

theorem firstNo_lt (p : Nat → Bool) (n : Nat) : firstNo p n < n ↔ ∃ i, i < n ∧ p i = false := by
  constructor
  · intro h; exact ⟨_, h, firstNo_no p n h⟩
  · rintro ⟨i, hi, hp⟩
    apply Nat.lt_of_not_le
    intro hge
    have := firstNo_yes p n i (by omega)
    rw [hp] at this; cases this

/-- too many writes: as the events tell, and as the edges do -/
theorem writes_big (l : List Nat) (hl : 0 < l.length) (hcyc : Cyc l) : firstNo (wrP (leastOf l)) (l.countP lC) < l.countP lC ↔ big l := by
  obtain ⟨r, hr, hR⟩ := leastOf_is l hl
  rw [firstNo_lt]
  have hB : 0 < (leastOf l).length := by rw [hR, turn_length]; exact hl
  have hC1 : (leastOf l).countP lC = l.countP lC := by rw [hR]; exact countP_turn _ _ _ (by omega)
  have hcy : Cyc (leastOf l) := by rw [hR]; exact Cyc_turn l r (by omega) hcyc
  have hbig : big (leastOf l) ↔ big l := by rw [hR]; exact big_turn l r (by omega)
  generalize leastOf l = b at *
  have hk := Nat.le_of_lt (Nat.mod_lt (outTo b b.length) hB)
  have hC2 := countP_turn lC b _ hk
  have hcy2 := Cyc_turn b _ hk hcy
  rw [← hbig, ← big_turn b _ hk]
  have key : ∀ c, (eventsOf b).countP (isW c) = wc ((turn b (outTo b b.length % b.length)).countP lC) c 0 (turn b (outTo b b.length % b.length)) := by
    intro c
    rw [events_ec, ec_cyc _ c _ rfl hcy2]
  unfold big
  constructor
  · rintro ⟨c, h1, h2⟩
    refine ⟨c, by omega, ?_⟩
    unfold wrP at h2
    rw [← key]
    simpa using h2
  · rintro ⟨c, h1, h2⟩
    refine ⟨c, by omega, ?_⟩
    unfold wrP
    rw [key]
    simpa using h2

/-- the program's check is the document's -/
theorem chk_eq (l : List Nat) (hl : 0 < l.length) : rchk l = chk l := by
  unfold rchk chk
  by_cases h1 : unj l < l.length
  · rw [if_pos h1, if_pos h1]
  · rw [if_neg h1, if_neg h1]
    by_cases h2 : l.countP lT < 2
    · rw [if_pos h2, if_pos h2]
    · rw [if_neg h2, if_neg h2]
      by_cases h3 : l.countP lC < 2
      · rw [if_pos h3, if_pos h3]
      · rw [if_neg h3, if_neg h3]
        have := (writes_big l hl (Cyc_of l hl h1)).trans (mcw_big l (by omega)).symm
        by_cases h4 : 2 < mcw l
        · rw [if_pos h4, if_pos (this.2 h4)]
        · rw [if_neg h4, if_neg (fun h => h4 (this.1 h))]

end Go.Proofs.YtokfiflflcfidabDoor
