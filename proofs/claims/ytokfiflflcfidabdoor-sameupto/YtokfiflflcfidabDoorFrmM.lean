import Derived.Test.YtokfiflflcfidabDoorCdM
import Derived.Test.YtokfiflflcfidabDoorRingM
namespace Go.Proofs.YtokfiflflcfidabDoor
open Go.RowKit

/-- is a fence asked for at an event above f, up to s? -/
def fenB (L : List Nat) (f s : Nat) : Bool := (List.range (s + 1)).any fun k => decide (f < k) && fE (L[prv L k]?.getD 0)
/-- the number of read i is claimed -/
def clm (L : List Nat) (i : Nat) : Bool := !bW (L[i]?.getD 0) && (isRf (L[prv L i]?.getD 0) || isFr (L[i]?.getD 0))
def byCode (L : List Nat) (f s : Nat) : Bool := decide (f < s) && (thrOf L f == thrOf L s && (!kd L f || kd L s || fenB L f s))
/-- the last write of r's cell among the events below n of r's thread -/
def ownTo (L : List Nat) (r : Nat) : Nat → Option Nat
  | 0 => none
  | n + 1 => if thrOf L n = thrOf L r then (if cellOf L n = cellOf L r ∧ kd L n = true then some n else ownTo L r n) else none
def ownW (L : List Nat) (r : Nat) : Option Nat := ownTo L r r
def byVal (L : List Nat) (f s : Nat) : Bool :=
  cellOf L f == cellOf L s &&
    (if kd L s then decide (vB L L.length f < vB L L.length s) && (kd L f || clm L f)
     else if !kd L f || !clm L s then false
     else if ownW L s = some f then !(vB L L.length f == vB L L.length s) else vB L L.length f == vB L L.length s)
/-- event f has to happen ahead of event s -/
def hap (L : List Nat) (f s : Nat) : Bool := byCode L f s || byVal L f s
/-- is it in the list? -/
def isIn (l : List Nat) (x : Nat) : Bool := l.contains x
theorem isIn_iff {l : List Nat} {x : Nat} : isIn l x = true ↔ x ∈ l := List.contains_iff_mem
/-- an event that is not in o has to happen ahead of a -/
def mwt (L : List Nat) (o : List Nat) (a : Nat) : Bool := (List.range L.length).any fun f => !isIn o f && hap L f a
/-- the event that happens next -/
def nx (L : List Nat) (o : List Nat) : Nat := firstNo (fun a => isIn o a || mwt L o a) L.length
def ordTo (L : List Nat) : Nat → List Nat
  | 0 => []
  | n + 1 => ordTo L n ++ [nx L (ordTo L n)]
/-- there is an order of all events -/
def shown (L : List Nat) : Bool := (List.range L.length).all fun n => decide (nx L (ordTo L n) < L.length)

theorem pigeon {xs ys : List Nat} (hnd : xs.Nodup) (h : ∀ x ∈ xs, x ∈ ys) : xs.length ≤ ys.length := by
  induction xs generalizing ys with
  | nil => exact Nat.zero_le _
  | cons a xs ih =>
    have ha := h a List.mem_cons_self
    have hn := List.nodup_cons.1 hnd
    have := ih (ys := ys.erase a) hn.2 (fun x hx => by
      have hne : x ≠ a := fun e => hn.1 (e ▸ hx)
      exact (List.mem_erase_of_ne hne).2 (h x (List.mem_cons_of_mem _ hx)))
    rw [List.length_erase_of_mem ha] at this
    have hp : 0 < ys.length := List.length_pos_of_mem ha
    simp only [List.length_cons]
    omega
theorem ordTo_length (L : List Nat) (n : Nat) : (ordTo L n).length = n := by
  induction n with
  | zero => rfl
  | succ n ih => rw [ordTo, List.length_append, ih]; rfl
theorem mem_ordTo (L : List Nat) (n a : Nat) : a ∈ ordTo L n ↔ ∃ k, k < n ∧ a = nx L (ordTo L k) := by
  induction n with
  | zero => simp [ordTo]
  | succ n ih =>
    rw [ordTo, List.mem_append, ih, List.mem_singleton]
    constructor
    · rintro (⟨k, h1, h2⟩ | h)
      · exact ⟨k, by omega, h2⟩
      · exact ⟨n, by omega, h⟩
    · rintro ⟨k, h1, h2⟩
      by_cases hk : k = n
      · subst hk; exact Or.inr h2
      · exact Or.inl ⟨k, by omega, h2⟩
theorem ord_mono (L : List Nat) {m n : Nat} (h : m ≤ n) {a : Nat} (ha : a ∈ ordTo L m) : a ∈ ordTo L n := by
  obtain ⟨k, h1, h2⟩ := (mem_ordTo L m a).1 ha
  exact (mem_ordTo L n a).2 ⟨k, by omega, h2⟩
theorem ordTo_at (L : List Nat) {k n : Nat} (h : k < n) : (ordTo L n)[k]?.getD 0 = nx L (ordTo L k) := by
  induction n with
  | zero => omega
  | succ n ih =>
    rw [ordTo]
    by_cases hk : k = n
    · subst hk
      rw [List.getElem?_append_right (by rw [ordTo_length]; omega), ordTo_length, Nat.sub_self]
      rfl
    · rw [List.getElem?_append_left (by rw [ordTo_length]; omega)]
      exact ih (by omega)
/-- what happens next can happen -/
theorem nx_spec (L o : List Nat) (h : nx L o < L.length) : nx L o ∉ o ∧ ∀ f, f < L.length → hap L f (nx L o) = true → f ∈ o := by
  have h1 := firstNo_no _ _ h
  have h2 : (isIn o (nx L o) || mwt L o (nx L o)) = false := h1
  rw [Bool.or_eq_false_iff] at h2
  refine ⟨fun hm => ?_, fun f hf hh => ?_⟩
  · have := h2.1
    rw [isIn_iff.2 hm] at this
    cases this
  · have h3 := h2.2
    unfold mwt at h3
    rw [List.any_eq_false] at h3
    have h4 := h3 f (List.mem_range.2 hf)
    rw [hh, Bool.and_true] at h4
    have h5 : isIn o f = true := by simpa using h4
    exact isIn_iff.1 h5
theorem shown_at {L : List Nat} (h : shown L = true) {n : Nat} (hn : n < L.length) : nx L (ordTo L n) < L.length := by
  have := List.all_eq_true.1 h n (List.mem_range.2 hn)
  exact of_decide_eq_true this
theorem ord_nodup {L : List Nat} (h : shown L = true) {n : Nat} (hn : n ≤ L.length) : (ordTo L n).Nodup ∧ ∀ a ∈ ordTo L n, a < L.length := by
  induction n with
  | zero => exact ⟨List.nodup_nil, fun a ha => by cases ha⟩
  | succ n ih =>
    obtain ⟨h1, h2⟩ := ih (by omega)
    have h3 := shown_at h (show n < L.length by omega)
    have h4 := nx_spec L _ h3
    rw [ordTo]
    refine ⟨?_, fun a ha => ?_⟩
    · rw [List.nodup_append]
      refine ⟨h1, by simp, fun a ha b hb e => ?_⟩
      rw [List.mem_singleton] at hb
      rw [e, hb] at ha
      exact h4.1 ha
    · rcases List.mem_append.1 ha with ha | ha
      · exact h2 a ha
      · rw [List.mem_singleton] at ha
        rw [ha]; exact h3
theorem ord_all {L : List Nat} (h : shown L = true) {a : Nat} (ha : a < L.length) : a ∈ ordTo L L.length := by
  obtain ⟨h1, h2⟩ := ord_nodup h (Nat.le_refl _)
  apply Classical.byContradiction
  intro hno
  have := pigeon (xs := a :: ordTo L L.length) (ys := List.range L.length) (List.nodup_cons.2 ⟨hno, h1⟩) (fun x hx => by
    rcases List.mem_cons.1 hx with e | hx
    · rw [e]; exact List.mem_range.2 ha
    · exact List.mem_range.2 (h2 x hx))
  rw [List.length_cons, ordTo_length, List.length_range] at this
  omega
/-- when an event happens -/
theorem ord_when {L : List Nat} (h : shown L = true) {a : Nat} (ha : a < L.length) : ∃ k, k < L.length ∧ a = nx L (ordTo L k) := (mem_ordTo L _ a).1 (ord_all h ha)
/-- an order gives each event its place -/
theorem ord_rank {L : List Nat} (h : shown L = true) : ∃ r : Nat → Nat, (∀ a, r a ≤ L.length) ∧ ∀ f s, f < L.length → s < L.length → hap L f s = true → r f < r s := by
  refine ⟨fun a => (List.range L.length).countP fun m => !isIn (ordTo L m) a, fun a => ?_, fun f s hf hs hh => ?_⟩
  · have := List.countP_le_length (p := fun m => !isIn (ordTo L m) a) (l := List.range L.length)
    rw [List.length_range] at this
    exact this
  · obtain ⟨k, hk, rfl⟩ := ord_when h hs
    have hsp := nx_spec L _ (shown_at h hk)
    have hfm := hsp.2 f hf hh
    have hsplit : List.range L.length = List.range (k + 1) ++ (List.range L.length).drop (k + 1) := by
      conv => lhs; rw [← List.take_append_drop (k + 1) (List.range L.length)]
      rw [List.take_range, Nat.min_eq_left (by omega)]
    dsimp only
    have e1 : (List.range (k + 1)).countP (fun m => !isIn (ordTo L m) (nx L (ordTo L k))) = k + 1 := by
      rw [List.countP_eq_length.2, List.length_range]
      intro m hm
      have : isIn (ordTo L m) (nx L (ordTo L k)) = false := by
        rw [Bool.eq_false_iff]
        intro hc
        exact hsp.1 (ord_mono L (by have := List.mem_range.1 hm; omega) (isIn_iff.1 hc))
      rw [this]; rfl
    have e2 : (List.range L.length).countP (fun m => !isIn (ordTo L m) f) ≤ k := by
      have hs2 : List.range L.length = List.range k ++ (List.range L.length).drop k := by
        conv => lhs; rw [← List.take_append_drop k (List.range L.length)]
        rw [List.take_range, Nat.min_eq_left (by omega)]
      rw [hs2, List.countP_append]
      have e3 : ((List.range L.length).drop k).countP (fun m => !isIn (ordTo L m) f) = 0 := by
        rw [List.countP_eq_zero]
        intro m hm
        have hkm : k ≤ m := by
          obtain ⟨i, hi, rfl⟩ := List.getElem_of_mem hm
          rw [List.getElem_drop, List.getElem_range]
          omega
        rw [isIn_iff.2 (ord_mono L hkm hfm)]
        simp
      have e4 := List.countP_le_length (p := fun m => !isIn (ordTo L m) f) (l := List.range k)
      rw [List.length_range] at e4
      omega
    have e5 : k + 1 ≤ (List.range L.length).countP (fun m => !isIn (ordTo L m) (nx L (ordTo L k))) := by
      rw [hsplit, List.countP_append, e1]
      exact Nat.le_add_right _ _
    omega
/-- where each event has a place, there is an order -/
theorem shown_of_rank {L : List Nat} (r : Nat → Nat) (h : ∀ f s, f < L.length → s < L.length → hap L f s = true → r f < r s) : shown L = true := by
  unfold shown
  rw [List.all_eq_true]
  intro n hn
  have hn := List.mem_range.1 hn
  apply decide_eq_true
  apply Nat.lt_of_not_le
  intro hge
  have hall : ∀ a, a < L.length → (isIn (ordTo L n) a || mwt L (ordTo L n) a) = true := fun a ha => firstNo_yes (fun a => isIn (ordTo L n) a || mwt L (ordTo L n) a) L.length a (by unfold nx at hge; omega)
  have hin : ∀ m a, a < L.length → r a = m → a ∈ ordTo L n := by
    intro m
    induction m using Nat.strongRecOn with
    | _ m ih =>
      intro a ha hm
      apply Classical.byContradiction
      intro hno
      have h1 := hall a ha
      have hc : isIn (ordTo L n) a = false := by
        rw [Bool.eq_false_iff]
        exact fun hc => hno (isIn_iff.1 hc)
      rw [hc, Bool.false_or] at h1
      unfold mwt at h1
      obtain ⟨f, hf, h2⟩ := List.any_eq_true.1 h1
      rw [Bool.and_eq_true] at h2
      have hf := List.mem_range.1 hf
      have h3 := h f a hf ha h2.2
      have h4 := ih (r f) (by omega) f hf rfl
      rw [isIn_iff.2 h4] at h2
      cases h2.1
  have := pigeon (xs := List.range L.length) (ys := ordTo L n) List.nodup_range (fun x hx => hin _ x (List.mem_range.1 hx) rfl)
  rw [List.length_range, ordTo_length] at this
  omega

theorem byCode_iff (L : List Nat) (f s : Nat) : byCode L f s = true ↔ f < s ∧ thrOf L f = thrOf L s ∧ (kd L f = false ∨ kd L s = true ∨ ∃ k, f < k ∧ k ≤ s ∧ fE (L[prv L k]?.getD 0) = true) := by
  unfold byCode fenB
  rw [Bool.and_eq_true, Bool.and_eq_true, Bool.or_eq_true, Bool.or_eq_true, List.any_eq_true, decide_eq_true_iff, beq_iff_eq]
  constructor
  · rintro ⟨h1, h2, h3⟩
    refine ⟨h1, h2, ?_⟩
    rcases h3 with (h | h) | ⟨k, hk, h⟩
    · exact Or.inl (by simpa using h)
    · exact Or.inr (Or.inl h)
    · rw [Bool.and_eq_true, decide_eq_true_iff] at h
      exact Or.inr (Or.inr ⟨k, h.1, by have := List.mem_range.1 hk; omega, h.2⟩)
  · rintro ⟨h1, h2, h3⟩
    refine ⟨h1, h2, ?_⟩
    rcases h3 with h | h | ⟨k, h4, h5, h6⟩
    · exact Or.inl (Or.inl (by simp [h]))
    · exact Or.inl (Or.inr h)
    · exact Or.inr ⟨k, List.mem_range.2 (by omega), by rw [decide_eq_true h4, h6]; rfl⟩
/-- what stands of own writes -/
theorem ownTo_some (L : List Nat) (r n : Nat) (w : Nat) (h : ownTo L r n = some w) : w < n ∧ thrOf L w = thrOf L r ∧ cellOf L w = cellOf L r ∧ kd L w = true ∧ ∀ i, w < i → i < n → thrOf L i = thrOf L r ∧ ¬ (cellOf L i = cellOf L r ∧ kd L i = true) := by
  induction n with
  | zero => cases h
  | succ n ih =>
    rw [ownTo] at h
    by_cases ht : thrOf L n = thrOf L r
    · rw [if_pos ht] at h
      by_cases hc : cellOf L n = cellOf L r ∧ kd L n = true
      · rw [if_pos hc] at h
        obtain rfl := Option.some.inj h
        exact ⟨by omega, ht, hc.1, hc.2, fun i h1 h2 => by omega⟩
      · rw [if_neg hc] at h
        obtain ⟨h1, h2, h3, h4, h5⟩ := ih h
        refine ⟨by omega, h2, h3, h4, fun i hi1 hi2 => ?_⟩
        by_cases hin : i = n
        · rw [hin]; exact ⟨ht, hc⟩
        · exact h5 i hi1 (by omega)
    · rw [if_neg ht] at h; cases h
theorem ownTo_none (L : List Nat) (r n : Nat) (hnr : n ≤ r) (h : ownTo L r n = none) : ∀ i, i < n → thrOf L i = thrOf L r → ¬ (cellOf L i = cellOf L r ∧ kd L i = true) := by
  induction n with
  | zero => intro i hi; omega
  | succ n ih =>
    rw [ownTo] at h
    intro i hi hti
    by_cases ht : thrOf L n = thrOf L r
    · rw [if_pos ht] at h
      by_cases hc : cellOf L n = cellOf L r ∧ kd L n = true
      · rw [if_pos hc] at h; cases h
      · rw [if_neg hc] at h
        by_cases hin : i = n
        · rw [hin]; exact hc
        · exact ih (by omega) h i (by omega) hti
    · have h1 := thr_mono L (show i ≤ n by omega)
      have h2 := thr_mono L (show n ≤ r by omega)
      omega

end Go.Proofs.YtokfiflflcfidabDoor

namespace Go.Proofs.YtokfiflflcfidabDoor
open Go.RowKit

theorem clm_eq (L : List Nat) (hR : Ring L) (i : Nat) (hi : i < L.length) : clm L i = (!kd L i && !lone L i) := claimed_eq L hR i hi

/-- the event that an event's edge goes forward to: behind a read of the thread's own store, the one behind it -/
def fwd (L : List Nat) (i : Nat) : Nat := if L[i]?.getD 0 = 13 then nxt L (nxt L i) else nxt L i

theorem in_thread (L : List Nat) (hlT : lT (L[L.length - 1]?.getD 0) = true) {i : Nat} (hi : i < L.length) (h : lT (L[i]?.getD 0) = false) : i + 1 < L.length ∧ nxt L i = i + 1 ∧ thrOf L (i + 1) = thrOf L i := by
  have hne : i + 1 ≠ L.length := by
    intro e
    rw [← e, show i + 1 - 1 = i from by omega, h] at hlT
    cases hlT
  have hs := thr_succ L i hi
  rw [h] at hs
  exact ⟨by omega, Nat.mod_eq_of_lt (by omega), by simpa [b1] using hs⟩
theorem out_thread (L : List Nat) (hT2 : 2 ≤ L.countP lT) {i : Nat} (hi : i < L.length) (h : lT (L[i]?.getD 0) = true) : thrOf L (nxt L i) ≠ thrOf L i := by
  have hs := thr_succ L i hi
  rw [h, show b1 true = 1 from rfl] at hs
  by_cases he : i + 1 = L.length
  · have h2 : thrOf L L.length = L.countP lT := by unfold thrOf; rw [List.take_length]
    rw [he, h2] at hs
    have h0 : nxt L i = 0 := by unfold nxt; rw [he, Nat.mod_self]
    rw [h0]
    have : thrOf L 0 = 0 := rfl
    omega
  · rw [show nxt L i = i + 1 from Nat.mod_eq_of_lt (by omega)]
    omega
theorem hap_code {L : List Nat} {f s : Nat} (h1 : f < s) (h2 : thrOf L f = thrOf L s) (h3 : kd L f = false ∨ kd L s = true ∨ fenB L f s = true) : hap L f s = true := by
  unfold hap byCode
  rw [decide_eq_true h1, h2]
  rcases h3 with h | h | h <;> simp [h]
theorem fen_at {L : List Nat} {f k s : Nat} (h1 : f < k) (h2 : k ≤ s) (h : fE (L[prv L k]?.getD 0) = true) : fenB L f s = true := by
  unfold fenB
  rw [List.any_eq_true]
  exact ⟨k, List.mem_range.2 (by omega), by rw [decide_eq_true h1, h]; rfl⟩
theorem hap_ww {L : List Nat} (hL : Lay L) {f s : Nat} (hf : f < L.length) (hs : s < L.length) (hc : cellOf L f = cellOf L s) (h1 : kd L s = true) (h2 : vaOf L f < vaOf L s) (h3 : kd L f = true ∨ clm L f = true) : hap L f s = true := by
  have h4 : (kd L f || clm L f) = true := by rcases h3 with h | h <;> simp [h]
  unfold hap byVal
  rw [hc, h1, if_pos rfl, vB_eq L hL f hf, vB_eq L hL s hs, decide_eq_true h2, h4]
  simp
theorem hap_wr {L : List Nat} (hL : Lay L) {f s : Nat} (hf : f < L.length) (hs : s < L.length) (hc : cellOf L f = cellOf L s) (h1 : kd L f = true) (h2 : kd L s = false) (h3 : clm L s = true) (h4 : vaOf L f = vaOf L s) (h5 : ownW L s ≠ some f) : hap L f s = true := by
  unfold hap byVal
  rw [hc, h1, h2, h3, vB_eq L hL f hf, vB_eq L hL s hs, h4, if_neg h5]
  simp

/-- with a fence at every step to another cell, each event has to happen ahead of a later one of the cycle -/
theorem firm_fwd (L : List Nat) (hR : Ring L) (hlT : lT (L[L.length - 1]?.getD 0) = true) (hT2 : 2 ≤ L.countP lT) (hF : ∀ i, i < L.length → lC (L[i]?.getD 0) = true → fE (L[i]?.getD 0) = true) {i : Nat} (hi : i < L.length) : fwd L i < L.length ∧ hap L i (fwd L i) = true := by
  have hL := hR.toLay
  have hjl := nxt_lt L hL i
  have he := getD_lt hR.small i
  have hjo := hR.joins i hi
  have hpn := prv_nxt L hL hi
  unfold fwd
  by_cases h13 : L[i]?.getD 0 = 13
  · rw [if_pos h13]
    have hl2 := nxt_lt L hL (nxt L i)
    refine ⟨hl2, ?_⟩
    obtain ⟨h1, h2, h3⟩ := in_thread L hlT hi (by rw [h13]; rfl)
    have hki : kd L i = true := by unfold kd; rw [h13]; rfl
    have hkj : kd L (nxt L i) = false := by rw [hjo, h13]; rfl
    have he2 := getD_lt hR.small (nxt L i)
    have hjo2 := hR.joins (nxt L i) hjl
    have hpn2 := prv_nxt L hL hjl
    have hce : cellOf L (nxt L i) = cellOf L i := cell_next L hL hi (by rw [h13]; rfl)
    have hva := va_nxt L hL hi (by rw [h13]; rfl)
    rw [hkj, show b1 false = 0 from rfl, Nat.add_zero] at hva
    rw [h2] at hl2 hjl hjo hkj he2 hjo2 hpn2 hce hva hpn ⊢
    cases hC : lC (L[i + 1]?.getD 0)
    · -- Fr
      rcases edge_kinds he2 hC with ⟨_, _, _, d, e⟩ | ⟨_, _, _, d, e⟩ | ⟨_, _, _, d, e⟩
      · unfold kd at hkj; rw [d] at hkj; cases hkj
      · unfold kd at hkj; rw [d] at hkj; cases hkj
      · rw [e] at hjo2
        have hce2 : cellOf L (nxt L (i + 1)) = cellOf L (i + 1) := cell_next L hL h1 hC
        have hva2 := va_nxt L hL h1 hC
        rw [hjo2, show b1 true = 1 from rfl] at hva2
        exact hap_ww hL hi hl2 (by rw [hce2, hce]) hjo2 (by omega) (Or.inl hki)
    · have hT : lT (L[i + 1]?.getD 0) = false := by
        cases h : lT (L[i + 1]?.getD 0)
        · rfl
        · rw [lT_lC h] at hC; cases hC
      obtain ⟨k1, k2, k3⟩ := in_thread L hlT h1 hT
      rw [k2]
      refine hap_code (by omega) (by rw [k3, h3]) (Or.inr (Or.inr (fen_at (k := i + 1 + 1) (by omega) (by omega) ?_)))
      rw [k2] at hpn2
      rw [hpn2]
      exact hF _ h1 hC
  · rw [if_neg h13]
    refine ⟨hjl, ?_⟩
    cases hT : lT (L[i]?.getD 0)
    · obtain ⟨h1, h2, h3⟩ := in_thread L hlT hi hT
      rw [h2] at hjl hjo hpn ⊢
      cases hC : lC (L[i]?.getD 0)
      · rcases cases14 he with h | h | h | h | h | h | h | h | h | h | h | h | h | h <;> rw [h] at hT hC hjo <;> try (exfalso; revert hT hC; decide)
        · exact hap_code (by omega) h3.symm (Or.inr (Or.inl (by rw [hjo]; rfl)))
        · exact hap_code (by omega) h3.symm (Or.inr (Or.inl (by rw [hjo]; rfl)))
        · exact absurd h h13
      · refine hap_code (by omega) h3.symm (Or.inr (Or.inr (fen_at (k := i + 1) (by omega) (by omega) ?_)))
        rw [hpn]
        exact hF _ hi hC
    · have hm := lT_lC hT
      have hva := va_nxt L hL hi hm
      have hce : cellOf L (nxt L i) = cellOf L i := cell_next L hL hi hm
      have hout := out_thread L hT2 hi hT
      rcases edge_kinds he hm with ⟨_, _, _, d, e⟩ | ⟨_, _, _, d, e⟩ | ⟨a, b, c, d, e⟩
      · rw [e] at hjo
        have hki : kd L i = true := d
        rw [hjo, show b1 false = 0 from rfl, Nat.add_zero] at hva
        refine hap_wr hL hi hjl hce.symm hki hjo ?_ hva.symm (fun hw => ?_)
        · rw [clm_eq L hR _ hjl, hjo]
          unfold lone
          rw [hpn, hm]
          rfl
        · exact hout ((ownTo_some L _ _ _ hw).2.1).symm
      · rw [e] at hjo
        have hki : kd L i = true := d
        rw [hjo, show b1 true = 1 from rfl] at hva
        exact hap_ww hL hi hjl hce.symm hjo (by omega) (Or.inl hki)
      · rw [e] at hjo
        have hki : kd L i = false := d
        rw [hjo, show b1 true = 1 from rfl] at hva
        refine hap_ww hL hi hjl hce.symm hjo (by omega) (Or.inr ?_)
        rw [clm_eq L hR _ hi, hki]
        unfold lone
        rw [hm, Bool.and_false]
        rfl
/-- with a fence at every step to another cell there is no order -/
theorem firm_core (L : List Nat) (hR : Ring L) (hlT : lT (L[L.length - 1]?.getD 0) = true) (hT2 : 2 ≤ L.countP lT) (hF : ∀ i, i < L.length → lC (L[i]?.getD 0) = true → fE (L[i]?.getD 0) = true) : shown L = false := by
  cases hs : shown L
  · rfl
  · exfalso
    obtain ⟨r, h1, h2⟩ := ord_rank hs
    have hup : ∀ n, ∃ i, i < L.length ∧ n ≤ r i := by
      intro n
      induction n with
      | zero => exact ⟨0, hR.toLay.pos, Nat.zero_le _⟩
      | succ n ih =>
        obtain ⟨i, hi, hn⟩ := ih
        obtain ⟨h3, h4⟩ := firm_fwd L hR hlT hT2 hF hi
        have := h2 i _ hi h3 h4
        exact ⟨_, h3, by omega⟩
    obtain ⟨i, _, hi⟩ := hup (L.length + 1)
    have := h1 i
    omega

end Go.Proofs.YtokfiflflcfidabDoor
