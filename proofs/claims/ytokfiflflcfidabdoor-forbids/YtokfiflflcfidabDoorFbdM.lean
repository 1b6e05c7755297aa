import Derived.Test.YtokfiflflcfidabDoorCdM
import Derived.Test.YtokfiflflcfidabDoorRingM
import Derived.Test.YtokfiflflcfidabDoorNvM
namespace Go.Proofs.YtokfiflflcfidabDoor
open Go.RowKit

/-- is a fence asked for at an event above f, up to s? -/
def fenB (L : List Nat) (f s : Nat) : Bool := (List.range (s + 1)).any fun k => decide (f < k) && fE (L[prv L k]?.getD 0)
/-- the number of read i is claimed -/
def clm (L : List Nat) (i : Nat) : Bool := !bW (L[i]?.getD 0) && (isRf (L[prv L i]?.getD 0) || isFr (L[i]?.getD 0))
def byCode (L : List Nat) (f s : Nat) : Bool := decide (f < s) && (thrOf L f == thrOf L s && (!kd L f || kd L s || fenB L f s))
/-- the last write of r's cell among the events below n of r's thread -/
def ownTo (L : List Nat) (r : Nat) : Nat → Option Nat
  | 0 => none
  | n + 1 => if thrOf L n = thrOf L r then (if cellOf L n = cellOf L r ∧ kd L n = true then some n else ownTo L r n) else none
def ownW (L : List Nat) (r : Nat) : Option Nat := ownTo L r r
def byVal (L : List Nat) (f s : Nat) : Bool :=
  cellOf L f == cellOf L s &&
    (if kd L s then decide (vB L L.length f < vB L L.length s) && (kd L f || clm L f)
     else if !kd L f || !clm L s then false
     else if ownW L s = some f then !(vB L L.length f == vB L L.length s) else vB L L.length f == vB L L.length s)
/-- event f has to happen ahead of event s -/
def hap (L : List Nat) (f s : Nat) : Bool := byCode L f s || byVal L f s
/-- is it in the list? -/
def isIn (l : List Nat) (x : Nat) : Bool := l.contains x
theorem isIn_iff {l : List Nat} {x : Nat} : isIn l x = true ↔ x ∈ l := List.contains_iff_mem
/-- an event that is not in o has to happen ahead of a -/
def mwt (L : List Nat) (o : List Nat) (a : Nat) : Bool := (List.range L.length).any fun f => !isIn o f && hap L f a
/-- the event that happens next -/
def nx (L : List Nat) (o : List Nat) : Nat := firstNo (fun a => isIn o a || mwt L o a) L.length
def ordTo (L : List Nat) : Nat → List Nat
  | 0 => []
  | n + 1 => ordTo L n ++ [nx L (ordTo L n)]
/-- there is an order of all events -/
def shown (L : List Nat) : Bool := (List.range L.length).all fun n => decide (nx L (ordTo L n) < L.length)

theorem pigeon {xs ys : List Nat} (hnd : xs.Nodup) (h : ∀ x ∈ xs, x ∈ ys) : xs.length ≤ ys.length := by
  induction xs generalizing ys with
  | nil => exact Nat.zero_le _
  | cons a xs ih =>
    have ha := h a List.mem_cons_self
    have hn := List.nodup_cons.1 hnd
    have := ih (ys := ys.erase a) hn.2 (fun x hx => by
      have hne : x ≠ a := fun e => hn.1 (e ▸ hx)
      exact (List.mem_erase_of_ne hne).2 (h x (List.mem_cons_of_mem _ hx)))
    rw [List.length_erase_of_mem ha] at this
    have hp : 0 < ys.length := List.length_pos_of_mem ha
    simp only [List.length_cons]
    omega
theorem ordTo_length (L : List Nat) (n : Nat) : (ordTo L n).length = n := by
  induction n with
  | zero => rfl
  | succ n ih => rw [ordTo, List.length_append, ih]; rfl
theorem mem_ordTo (L : List Nat) (n a : Nat) : a ∈ ordTo L n ↔ ∃ k, k < n ∧ a = nx L (ordTo L k) := by
  induction n with
  | zero => simp [ordTo]
  | succ n ih =>
    rw [ordTo, List.mem_append, ih, List.mem_singleton]
    constructor
    · rintro (⟨k, h1, h2⟩ | h)
      · exact ⟨k, by omega, h2⟩
      · exact ⟨n, by omega, h⟩
    · rintro ⟨k, h1, h2⟩
      by_cases hk : k = n
      · subst hk; exact Or.inr h2
      · exact Or.inl ⟨k, by omega, h2⟩
theorem ord_mono (L : List Nat) {m n : Nat} (h : m ≤ n) {a : Nat} (ha : a ∈ ordTo L m) : a ∈ ordTo L n := by
  obtain ⟨k, h1, h2⟩ := (mem_ordTo L m a).1 ha
  exact (mem_ordTo L n a).2 ⟨k, by omega, h2⟩
theorem ordTo_at (L : List Nat) {k n : Nat} (h : k < n) : (ordTo L n)[k]?.getD 0 = nx L (ordTo L k) := by
  induction n with
  | zero => omega
  | succ n ih =>
    rw [ordTo]
    by_cases hk : k = n
    · subst hk
      rw [List.getElem?_append_right (by rw [ordTo_length]; omega), ordTo_length, Nat.sub_self]
      rfl
    · rw [List.getElem?_append_left (by rw [ordTo_length]; omega)]
      exact ih (by omega)
/-- what happens next can happen -/
theorem nx_spec (L o : List Nat) (h : nx L o < L.length) : nx L o ∉ o ∧ ∀ f, f < L.length → hap L f (nx L o) = true → f ∈ o := by
  have h1 := firstNo_no _ _ h
  have h2 : (isIn o (nx L o) || mwt L o (nx L o)) = false := h1
  rw [Bool.or_eq_false_iff] at h2
  refine ⟨fun hm => ?_, fun f hf hh => ?_⟩
  · have := h2.1
    rw [isIn_iff.2 hm] at this
    cases this
  · have h3 := h2.2
    unfold mwt at h3
    rw [List.any_eq_false] at h3
    have h4 := h3 f (List.mem_range.2 hf)
    rw [hh, Bool.and_true] at h4
    have h5 : isIn o f = true := by simpa using h4
    exact isIn_iff.1 h5
theorem shown_at {L : List Nat} (h : shown L = true) {n : Nat} (hn : n < L.length) : nx L (ordTo L n) < L.length := by
  have := List.all_eq_true.1 h n (List.mem_range.2 hn)
  exact of_decide_eq_true this
theorem ord_nodup {L : List Nat} (h : shown L = true) {n : Nat} (hn : n ≤ L.length) : (ordTo L n).Nodup ∧ ∀ a ∈ ordTo L n, a < L.length := by
  induction n with
  | zero => exact ⟨List.nodup_nil, fun a ha => by cases ha⟩
  | succ n ih =>
    obtain ⟨h1, h2⟩ := ih (by omega)
    have h3 := shown_at h (show n < L.length by omega)
    have h4 := nx_spec L _ h3
    rw [ordTo]
    refine ⟨?_, fun a ha => ?_⟩
    · rw [List.nodup_append]
      refine ⟨h1, by simp, fun a ha b hb e => ?_⟩
      rw [List.mem_singleton] at hb
      rw [e, hb] at ha
      exact h4.1 ha
    · rcases List.mem_append.1 ha with ha | ha
      · exact h2 a ha
      · rw [List.mem_singleton] at ha
        rw [ha]; exact h3
theorem ord_all {L : List Nat} (h : shown L = true) {a : Nat} (ha : a < L.length) : a ∈ ordTo L L.length := by
  obtain ⟨h1, h2⟩ := ord_nodup h (Nat.le_refl _)
  apply Classical.byContradiction
  intro hno
  have := pigeon (xs := a :: ordTo L L.length) (ys := List.range L.length) (List.nodup_cons.2 ⟨hno, h1⟩) (fun x hx => by
    rcases List.mem_cons.1 hx with e | hx
    · rw [e]; exact List.mem_range.2 ha
    · exact List.mem_range.2 (h2 x hx))
  rw [List.length_cons, ordTo_length, List.length_range] at this
  omega
/-- when an event happens -/
theorem ord_when {L : List Nat} (h : shown L = true) {a : Nat} (ha : a < L.length) : ∃ k, k < L.length ∧ a = nx L (ordTo L k) := (mem_ordTo L _ a).1 (ord_all h ha)
/-- an order gives each event its place -/
theorem ord_rank {L : List Nat} (h : shown L = true) : ∃ r : Nat → Nat, (∀ a, r a ≤ L.length) ∧ ∀ f s, f < L.length → s < L.length → hap L f s = true → r f < r s := by
  refine ⟨fun a => (List.range L.length).countP fun m => !isIn (ordTo L m) a, fun a => ?_, fun f s hf hs hh => ?_⟩
  · have := List.countP_le_length (p := fun m => !isIn (ordTo L m) a) (l := List.range L.length)
    rw [List.length_range] at this
    exact this
  · obtain ⟨k, hk, rfl⟩ := ord_when h hs
    have hsp := nx_spec L _ (shown_at h hk)
    have hfm := hsp.2 f hf hh
    have hsplit : List.range L.length = List.range (k + 1) ++ (List.range L.length).drop (k + 1) := by
      conv => lhs; rw [← List.take_append_drop (k + 1) (List.range L.length)]
      rw [List.take_range, Nat.min_eq_left (by omega)]
    dsimp only
    have e1 : (List.range (k + 1)).countP (fun m => !isIn (ordTo L m) (nx L (ordTo L k))) = k + 1 := by
      rw [List.countP_eq_length.2, List.length_range]
      intro m hm
      have : isIn (ordTo L m) (nx L (ordTo L k)) = false := by
        rw [Bool.eq_false_iff]
        intro hc
        exact hsp.1 (ord_mono L (by have := List.mem_range.1 hm; omega) (isIn_iff.1 hc))
      rw [this]; rfl
    have e2 : (List.range L.length).countP (fun m => !isIn (ordTo L m) f) ≤ k := by
      have hs2 : List.range L.length = List.range k ++ (List.range L.length).drop k := by
        conv => lhs; rw [← List.take_append_drop k (List.range L.length)]
        rw [List.take_range, Nat.min_eq_left (by omega)]
      rw [hs2, List.countP_append]
      have e3 : ((List.range L.length).drop k).countP (fun m => !isIn (ordTo L m) f) = 0 := by
        rw [List.countP_eq_zero]
        intro m hm
        have hkm : k ≤ m := by
          obtain ⟨i, hi, rfl⟩ := List.getElem_of_mem hm
          rw [List.getElem_drop, List.getElem_range]
          omega
        rw [isIn_iff.2 (ord_mono L hkm hfm)]
        simp
      have e4 := List.countP_le_length (p := fun m => !isIn (ordTo L m) f) (l := List.range k)
      rw [List.length_range] at e4
      omega
    have e5 : k + 1 ≤ (List.range L.length).countP (fun m => !isIn (ordTo L m) (nx L (ordTo L k))) := by
      rw [hsplit, List.countP_append, e1]
      exact Nat.le_add_right _ _
    omega
/-- where each event has a place, there is an order -/
theorem shown_of_rank {L : List Nat} (r : Nat → Nat) (h : ∀ f s, f < L.length → s < L.length → hap L f s = true → r f < r s) : shown L = true := by
  unfold shown
  rw [List.all_eq_true]
  intro n hn
  have hn := List.mem_range.1 hn
  apply decide_eq_true
  apply Nat.lt_of_not_le
  intro hge
  have hall : ∀ a, a < L.length → (isIn (ordTo L n) a || mwt L (ordTo L n) a) = true := fun a ha => firstNo_yes (fun a => isIn (ordTo L n) a || mwt L (ordTo L n) a) L.length a (by unfold nx at hge; omega)
  have hin : ∀ m a, a < L.length → r a = m → a ∈ ordTo L n := by
    intro m
    induction m using Nat.strongRecOn with
    | _ m ih =>
      intro a ha hm
      apply Classical.byContradiction
      intro hno
      have h1 := hall a ha
      have hc : isIn (ordTo L n) a = false := by
        rw [Bool.eq_false_iff]
        exact fun hc => hno (isIn_iff.1 hc)
      rw [hc, Bool.false_or] at h1
      unfold mwt at h1
      obtain ⟨f, hf, h2⟩ := List.any_eq_true.1 h1
      rw [Bool.and_eq_true] at h2
      have hf := List.mem_range.1 hf
      have h3 := h f a hf ha h2.2
      have h4 := ih (r f) (by omega) f hf rfl
      rw [isIn_iff.2 h4] at h2
      cases h2.1
  have := pigeon (xs := List.range L.length) (ys := ordTo L n) List.nodup_range (fun x hx => hin _ x (List.mem_range.1 hx) rfl)
  rw [List.length_range, ordTo_length] at this
  omega

theorem byCode_iff (L : List Nat) (f s : Nat) : byCode L f s = true ↔ f < s ∧ thrOf L f = thrOf L s ∧ (kd L f = false ∨ kd L s = true ∨ ∃ k, f < k ∧ k ≤ s ∧ fE (L[prv L k]?.getD 0) = true) := by
  unfold byCode fenB
  rw [Bool.and_eq_true, Bool.and_eq_true, Bool.or_eq_true, Bool.or_eq_true, List.any_eq_true, decide_eq_true_iff, beq_iff_eq]
  constructor
  · rintro ⟨h1, h2, h3⟩
    refine ⟨h1, h2, ?_⟩
    rcases h3 with (h | h) | ⟨k, hk, h⟩
    · exact Or.inl (by simpa using h)
    · exact Or.inr (Or.inl h)
    · rw [Bool.and_eq_true, decide_eq_true_iff] at h
      exact Or.inr (Or.inr ⟨k, h.1, by have := List.mem_range.1 hk; omega, h.2⟩)
  · rintro ⟨h1, h2, h3⟩
    refine ⟨h1, h2, ?_⟩
    rcases h3 with h | h | ⟨k, h4, h5, h6⟩
    · exact Or.inl (Or.inl (by simp [h]))
    · exact Or.inl (Or.inr h)
    · exact Or.inr ⟨k, List.mem_range.2 (by omega), by rw [decide_eq_true h4, h6]; rfl⟩
/-- what stands of own writes -/
theorem ownTo_some (L : List Nat) (r n : Nat) (w : Nat) (h : ownTo L r n = some w) : w < n ∧ thrOf L w = thrOf L r ∧ cellOf L w = cellOf L r ∧ kd L w = true ∧ ∀ i, w < i → i < n → thrOf L i = thrOf L r ∧ ¬ (cellOf L i = cellOf L r ∧ kd L i = true) := by
  induction n with
  | zero => cases h
  | succ n ih =>
    rw [ownTo] at h
    by_cases ht : thrOf L n = thrOf L r
    · rw [if_pos ht] at h
      by_cases hc : cellOf L n = cellOf L r ∧ kd L n = true
      · rw [if_pos hc] at h
        obtain rfl := Option.some.inj h
        exact ⟨by omega, ht, hc.1, hc.2, fun i h1 h2 => by omega⟩
      · rw [if_neg hc] at h
        obtain ⟨h1, h2, h3, h4, h5⟩ := ih h
        refine ⟨by omega, h2, h3, h4, fun i hi1 hi2 => ?_⟩
        by_cases hin : i = n
        · rw [hin]; exact ⟨ht, hc⟩
        · exact h5 i hi1 (by omega)
    · rw [if_neg ht] at h; cases h
theorem ownTo_none (L : List Nat) (r n : Nat) (hnr : n ≤ r) (h : ownTo L r n = none) : ∀ i, i < n → thrOf L i = thrOf L r → ¬ (cellOf L i = cellOf L r ∧ kd L i = true) := by
  induction n with
  | zero => intro i hi; omega
  | succ n ih =>
    rw [ownTo] at h
    intro i hi hti
    by_cases ht : thrOf L n = thrOf L r
    · rw [if_pos ht] at h
      by_cases hc : cellOf L n = cellOf L r ∧ kd L n = true
      · rw [if_pos hc] at h; cases h
      · rw [if_neg hc] at h
        by_cases hin : i = n
        · rw [hin]; exact hc
        · exact ih (by omega) h i (by omega) hti
    · have h1 := thr_mono L (show i ≤ n by omega)
      have h2 := thr_mono L (show n ≤ r by omega)
      omega

end Go.Proofs.YtokfiflflcfidabDoor

namespace Go.Proofs.YtokfiflflcfidabDoor
open Go.RowKit

theorem clm_eq (L : List Nat) (hR : Ring L) (i : Nat) (hi : i < L.length) : clm L i = (!kd L i && !lone L i) := claimed_eq L hR i hi

/-- the event that an event's edge goes forward to: behind a read of the thread's own store, the one behind it -/
def fwd (L : List Nat) (i : Nat) : Nat := if L[i]?.getD 0 = 13 then nxt L (nxt L i) else nxt L i

theorem in_thread (L : List Nat) (hlT : lT (L[L.length - 1]?.getD 0) = true) {i : Nat} (hi : i < L.length) (h : lT (L[i]?.getD 0) = false) : i + 1 < L.length ∧ nxt L i = i + 1 ∧ thrOf L (i + 1) = thrOf L i := by
  have hne : i + 1 ≠ L.length := by
    intro e
    rw [← e, show i + 1 - 1 = i from by omega, h] at hlT
    cases hlT
  have hs := thr_succ L i hi
  rw [h] at hs
  exact ⟨by omega, Nat.mod_eq_of_lt (by omega), by simpa [b1] using hs⟩
theorem out_thread (L : List Nat) (hT2 : 2 ≤ L.countP lT) {i : Nat} (hi : i < L.length) (h : lT (L[i]?.getD 0) = true) : thrOf L (nxt L i) ≠ thrOf L i := by
  have hs := thr_succ L i hi
  rw [h, show b1 true = 1 from rfl] at hs
  by_cases he : i + 1 = L.length
  · have h2 : thrOf L L.length = L.countP lT := by unfold thrOf; rw [List.take_length]
    rw [he, h2] at hs
    have h0 : nxt L i = 0 := by unfold nxt; rw [he, Nat.mod_self]
    rw [h0]
    have : thrOf L 0 = 0 := rfl
    omega
  · rw [show nxt L i = i + 1 from Nat.mod_eq_of_lt (by omega)]
    omega
theorem hap_code {L : List Nat} {f s : Nat} (h1 : f < s) (h2 : thrOf L f = thrOf L s) (h3 : kd L f = false ∨ kd L s = true ∨ fenB L f s = true) : hap L f s = true := by
  unfold hap byCode
  rw [decide_eq_true h1, h2]
  rcases h3 with h | h | h <;> simp [h]
theorem fen_at {L : List Nat} {f k s : Nat} (h1 : f < k) (h2 : k ≤ s) (h : fE (L[prv L k]?.getD 0) = true) : fenB L f s = true := by
  unfold fenB
  rw [List.any_eq_true]
  exact ⟨k, List.mem_range.2 (by omega), by rw [decide_eq_true h1, h]; rfl⟩
theorem hap_ww {L : List Nat} (hL : Lay L) {f s : Nat} (hf : f < L.length) (hs : s < L.length) (hc : cellOf L f = cellOf L s) (h1 : kd L s = true) (h2 : vaOf L f < vaOf L s) (h3 : kd L f = true ∨ clm L f = true) : hap L f s = true := by
  have h4 : (kd L f || clm L f) = true := by rcases h3 with h | h <;> simp [h]
  unfold hap byVal
  rw [hc, h1, if_pos rfl, vB_eq L hL f hf, vB_eq L hL s hs, decide_eq_true h2, h4]
  simp
theorem hap_wr {L : List Nat} (hL : Lay L) {f s : Nat} (hf : f < L.length) (hs : s < L.length) (hc : cellOf L f = cellOf L s) (h1 : kd L f = true) (h2 : kd L s = false) (h3 : clm L s = true) (h4 : vaOf L f = vaOf L s) (h5 : ownW L s ≠ some f) : hap L f s = true := by
  unfold hap byVal
  rw [hc, h1, h2, h3, vB_eq L hL f hf, vB_eq L hL s hs, h4, if_neg h5]
  simp

/-- with a fence at every step to another cell, each event has to happen ahead of a later one of the cycle -/
theorem firm_fwd (L : List Nat) (hR : Ring L) (hlT : lT (L[L.length - 1]?.getD 0) = true) (hT2 : 2 ≤ L.countP lT) (hF : ∀ i, i < L.length → lC (L[i]?.getD 0) = true → fE (L[i]?.getD 0) = true) {i : Nat} (hi : i < L.length) : fwd L i < L.length ∧ hap L i (fwd L i) = true := by
  have hL := hR.toLay
  have hjl := nxt_lt L hL i
  have he := getD_lt hR.small i
  have hjo := hR.joins i hi
  have hpn := prv_nxt L hL hi
  unfold fwd
  by_cases h13 : L[i]?.getD 0 = 13
  · rw [if_pos h13]
    have hl2 := nxt_lt L hL (nxt L i)
    refine ⟨hl2, ?_⟩
    obtain ⟨h1, h2, h3⟩ := in_thread L hlT hi (by rw [h13]; rfl)
    have hki : kd L i = true := by unfold kd; rw [h13]; rfl
    have hkj : kd L (nxt L i) = false := by rw [hjo, h13]; rfl
    have he2 := getD_lt hR.small (nxt L i)
    have hjo2 := hR.joins (nxt L i) hjl
    have hpn2 := prv_nxt L hL hjl
    have hce : cellOf L (nxt L i) = cellOf L i := cell_next L hL hi (by rw [h13]; rfl)
    have hva := va_nxt L hL hi (by rw [h13]; rfl)
    rw [hkj, show b1 false = 0 from rfl, Nat.add_zero] at hva
    rw [h2] at hl2 hjl hjo hkj he2 hjo2 hpn2 hce hva hpn ⊢
    cases hC : lC (L[i + 1]?.getD 0)
    · -- Fr
      rcases edge_kinds he2 hC with ⟨_, _, _, d, e⟩ | ⟨_, _, _, d, e⟩ | ⟨_, _, _, d, e⟩
      · unfold kd at hkj; rw [d] at hkj; cases hkj
      · unfold kd at hkj; rw [d] at hkj; cases hkj
      · rw [e] at hjo2
        have hce2 : cellOf L (nxt L (i + 1)) = cellOf L (i + 1) := cell_next L hL h1 hC
        have hva2 := va_nxt L hL h1 hC
        rw [hjo2, show b1 true = 1 from rfl] at hva2
        exact hap_ww hL hi hl2 (by rw [hce2, hce]) hjo2 (by omega) (Or.inl hki)
    · have hT : lT (L[i + 1]?.getD 0) = false := by
        cases h : lT (L[i + 1]?.getD 0)
        · rfl
        · rw [lT_lC h] at hC; cases hC
      obtain ⟨k1, k2, k3⟩ := in_thread L hlT h1 hT
      rw [k2]
      refine hap_code (by omega) (by rw [k3, h3]) (Or.inr (Or.inr (fen_at (k := i + 1 + 1) (by omega) (by omega) ?_)))
      rw [k2] at hpn2
      rw [hpn2]
      exact hF _ h1 hC
  · rw [if_neg h13]
    refine ⟨hjl, ?_⟩
    cases hT : lT (L[i]?.getD 0)
    · obtain ⟨h1, h2, h3⟩ := in_thread L hlT hi hT
      rw [h2] at hjl hjo hpn ⊢
      cases hC : lC (L[i]?.getD 0)
      · rcases cases14 he with h | h | h | h | h | h | h | h | h | h | h | h | h | h <;> rw [h] at hT hC hjo <;> try (exfalso; revert hT hC; decide)
        · exact hap_code (by omega) h3.symm (Or.inr (Or.inl (by rw [hjo]; rfl)))
        · exact hap_code (by omega) h3.symm (Or.inr (Or.inl (by rw [hjo]; rfl)))
        · exact absurd h h13
      · refine hap_code (by omega) h3.symm (Or.inr (Or.inr (fen_at (k := i + 1) (by omega) (by omega) ?_)))
        rw [hpn]
        exact hF _ hi hC
    · have hm := lT_lC hT
      have hva := va_nxt L hL hi hm
      have hce : cellOf L (nxt L i) = cellOf L i := cell_next L hL hi hm
      have hout := out_thread L hT2 hi hT
      rcases edge_kinds he hm with ⟨_, _, _, d, e⟩ | ⟨_, _, _, d, e⟩ | ⟨a, b, c, d, e⟩
      · rw [e] at hjo
        have hki : kd L i = true := d
        rw [hjo, show b1 false = 0 from rfl, Nat.add_zero] at hva
        refine hap_wr hL hi hjl hce.symm hki hjo ?_ hva.symm (fun hw => ?_)
        · rw [clm_eq L hR _ hjl, hjo]
          unfold lone
          rw [hpn, hm]
          rfl
        · exact hout ((ownTo_some L _ _ _ hw).2.1).symm
      · rw [e] at hjo
        have hki : kd L i = true := d
        rw [hjo, show b1 true = 1 from rfl] at hva
        exact hap_ww hL hi hjl hce.symm hjo (by omega) (Or.inl hki)
      · rw [e] at hjo
        have hki : kd L i = false := d
        rw [hjo, show b1 true = 1 from rfl] at hva
        refine hap_ww hL hi hjl hce.symm hjo (by omega) (Or.inr ?_)
        rw [clm_eq L hR _ hi, hki]
        unfold lone
        rw [hm, Bool.and_false]
        rfl
/-- with a fence at every step to another cell there is no order -/
theorem firm_core (L : List Nat) (hR : Ring L) (hlT : lT (L[L.length - 1]?.getD 0) = true) (hT2 : 2 ≤ L.countP lT) (hF : ∀ i, i < L.length → lC (L[i]?.getD 0) = true → fE (L[i]?.getD 0) = true) : shown L = false := by
  cases hs : shown L
  · rfl
  · exfalso
    obtain ⟨r, h1, h2⟩ := ord_rank hs
    have hup : ∀ n, ∃ i, i < L.length ∧ n ≤ r i := by
      intro n
      induction n with
      | zero => exact ⟨0, hR.toLay.pos, Nat.zero_le _⟩
      | succ n ih =>
        obtain ⟨i, hi, hn⟩ := ih
        obtain ⟨h3, h4⟩ := firm_fwd L hR hlT hT2 hF hi
        have := h2 i _ hi h3 h4
        exact ⟨_, h3, by omega⟩
    obtain ⟨i, _, hi⟩ := hup (L.length + 1)
    have := h1 i
    omega

end Go.Proofs.YtokfiflflcfidabDoor

namespace Go.Proofs.YtokfiflflcfidabDoor
open Go.RowKit

/-- what read j takes behind the happenings b -/
def rdV (L : List Nat) (j : Nat) (b : List Nat) : Nat :=
  match ownW L j with
  | none => lastV L (cellOf L j) b
  | some w => if w ∈ b then lastV L (cellOf L j) b else vaOf L w

/-- the machine with buffers, behind the happenings tr (the youngest first); q: the writes that wait -/
structure FInv (L : List Nat) (s : St) (tr : List Nat) (q : Nat → List Nat) : Prop where
  nd : tr.Nodup
  lt : ∀ i, i ∈ tr → i < L.length ∧ posn L i < (s.th (thrOf L i)).pc
  rd : ∀ i, i < L.length → kd L i = false → posn L i < (s.th (thrOf L i)).pc → i ∈ tr
  bf : ∀ k, (s.th k).buf = (q k).map (insE L)
  qm : ∀ k i, i ∈ q k ↔ i < L.length ∧ thrOf L i = k ∧ kd L i = true ∧ posn L i < (s.th k).pc ∧ i ∉ tr
  qs : ∀ k, (q k).Pairwise (· < ·)
  rl : ∀ k, (s.th k).regs.length = 16
  me : ∀ c, s.mem c = lastV L c tr
  fe : ∀ m i, m < L.length → fE (L[prv L m]?.getD 0) = true → posn L m ≤ (s.th (thrOf L m)).pc → i < m → thrOf L i = thrOf L m → kd L i = true → i ∈ tr
  hi : ∀ a j b, tr = a ++ j :: b → (∀ i, byCode L i j = true → i ∈ b) ∧ (kd L j = false → (s.th (thrOf L j)).regs[regOf L j]?.getD 0 = rdV L j b)

/-- ahead of an event with a fence stands no other event's instruction -/
theorem fence_gap (L : List Nat) {m e : Nat} (hf : fE (L[prv L m]?.getD 0) = true) (ht : thrOf L e = thrOf L m) : posn L e + 1 ≠ posn L m := by
  intro h
  have h1 := posn_eq L m
  have h2 : (em L m).length = 2 := by unfold em; rw [if_pos hf]; rfl
  rcases Nat.lt_trichotomy e m with h3 | h3 | h3
  · have := posn_in L h3
    rw [ht] at this
    omega
  · subst h3; omega
  · have := posn_lt L h3 ht.symm
    omega
theorem fence_pos (L : List Nat) {m : Nat} (hf : fE (L[prv L m]?.getD 0) = true) : 0 < posn L m := by
  have h1 := posn_eq L m
  have h2 : (em L m).length = 2 := by unfold em; rw [if_pos hf]; rfl
  omega
theorem posn_le_iff (L : List Nat) {i j : Nat} (ht : thrOf L i = thrOf L j) (h : posn L i < posn L j) : i < j := by
  rcases Nat.lt_trichotomy i j with h1 | h1 | h1
  · exact h1
  · subst h1; omega
  · have := posn_lt L h1 ht.symm; omega

/-- the youngest waiting store of a cell -/
theorem ldTo_map (L : List Nat) (q : List Nat) (hk : ∀ i ∈ q, kd L i = true) (c n : Nat) (hn : n ≤ q.length) :
    (ldTo (q.map (insE L)) c n = none ∧ ∀ m, m < n → cellOf L (q[m]?.getD 0) ≠ c) ∨
    ∃ m, m < n ∧ cellOf L (q[m]?.getD 0) = c ∧ ldTo (q.map (insE L)) c n = some (vaOf L (q[m]?.getD 0)) ∧ ∀ p, m < p → p < n → cellOf L (q[p]?.getD 0) ≠ c := by
  induction n with
  | zero => exact Or.inl ⟨rfl, fun m hm => by omega⟩
  | succ n ih =>
    have hx : (q.map (insE L))[n]?.getD rins0 = ⟨1, 0, cellOf L (q[n]?.getD 0), vaOf L (q[n]?.getD 0)⟩ := by
      have hkn := hk (q[n]?.getD 0) (by rw [List.getElem?_eq_getElem (by omega)]; exact List.getElem_mem _)
      rw [List.getElem?_map, List.getElem?_eq_getElem (by omega)] at *
      simp only [Option.map_some, Option.getD_some] at *
      unfold insE
      rw [hkn, if_pos rfl]
    rw [ldTo, hx]
    dsimp only
    by_cases hc : cellOf L (q[n]?.getD 0) = c
    · rw [if_pos hc]
      exact Or.inr ⟨n, by omega, hc, rfl, fun p h1 h2 => by omega⟩
    · rw [if_neg hc]
      rcases ih (by omega) with ⟨h1, h2⟩ | ⟨m, h1, h2, h3, h4⟩
      · refine Or.inl ⟨h1, fun m hm => ?_⟩
        by_cases hmn : m = n
        · rw [hmn]; exact hc
        · exact h2 m (by omega)
      · refine Or.inr ⟨m, by omega, h2, h3, fun p hp1 hp2 => ?_⟩
        by_cases hpn : p = n
        · rw [hpn]; exact hc
        · exact h4 p hp1 (by omega)

theorem FInv.init (L : List Nat) : FInv L st0 [] (fun _ => []) where
  nd := List.nodup_nil
  lt := fun i h => by cases h
  rd := fun i _ _ h => absurd h (Nat.not_lt_zero _)
  bf := fun _ => rfl
  qm := fun k i => Iff.intro (fun h => absurd h List.not_mem_nil) (fun h => absurd h.2.2.2.1 (Nat.not_lt_zero _))
  qs := fun _ => List.Pairwise.nil
  rl := fun _ => by simp [st0]
  me := fun _ => rfl
  fe := fun m i _ hf hp _ _ _ => by
    have := fence_pos L hf
    have h0 : (st0.th (thrOf L m)).pc = 0 := rfl
    omega
  hi := fun a j b h => by simp at h

/-- an earlier write of the thread has left the buffer, if a later one has -/
theorem FInv.fifo {L : List Nat} {s : St} {tr : List Nat} {q : Nat → List Nat} (h : FInv L s tr q) {i w : Nat} (hw : w ∈ tr) (hkw : kd L w = true) (hiw : i < w) (ht : thrOf L i = thrOf L w) : i ∈ tr := by
  obtain ⟨a, b, hab⟩ := List.append_of_mem hw
  have := (h.hi a w b hab).1 i ((byCode_iff L i w).2 ⟨hiw, ht, Or.inr (Or.inl hkw)⟩)
  rw [hab]
  simp [this]

/-- what thread k loads for read j -/
theorem FInv.load {L : List Nat} {s : St} {tr : List Nat} {q : Nat → List Nat} (h : FInv L s tr q) {j k : Nat} (hj : j < L.length) (ht : thrOf L j = k) (hp : posn L j = (s.th k).pc) :
    loadS s.mem s.th k (cellOf L j) = rdV L j tr := by
  have hql : ∀ i, i ∈ q k → i < j := fun i hi => by
    have := (h.qm k i).1 hi
    exact posn_le_iff L (this.2.1.trans ht.symm) (by omega)
  have hkq : ∀ i, i ∈ q k → kd L i = true := fun i hi => ((h.qm k i).1 hi).2.2.1
  have hmem : ∀ m, m < (q k).length → (q k)[m]?.getD 0 ∈ q k := fun m hm => by
    rw [List.getElem?_eq_getElem hm]; exact List.getElem_mem _
  have hlen : (s.th k).buf.length = (q k).length := by rw [h.bf k, List.length_map]
  have hno : (∀ i, i ∈ q k → cellOf L i ≠ cellOf L j) → loadS s.mem s.th k (cellOf L j) = lastV L (cellOf L j) tr := by
    intro hall
    unfold loadS
    rw [hlen, h.bf k]
    rcases ldTo_map L (q k) hkq (cellOf L j) (q k).length (Nat.le_refl _) with ⟨h1, _⟩ | ⟨m, h1, h2, _⟩
    · rw [h1]; exact h.me _
    · exact absurd h2 (hall _ (hmem m h1))
  unfold rdV
  cases ho : ownW L j with
  | none =>
    dsimp only
    refine hno (fun i hi hc => ?_)
    have h1 := (h.qm k i).1 hi
    exact ownTo_none L j j (Nat.le_refl _) ho i (hql i hi) (h1.2.1.trans ht.symm) ⟨hc, h1.2.2.1⟩
  | some w =>
    dsimp only
    obtain ⟨h1, h2, h3, h4, h5⟩ := ownTo_some L j j w ho
    by_cases hw : w ∈ tr
    · rw [if_pos hw]
      refine hno (fun i hi hc => ?_)
      have h6 := (h.qm k i).1 hi
      have h7 := hql i hi
      rcases Nat.lt_trichotomy i w with h8 | h8 | h8
      · exact h6.2.2.2.2 (h.fifo hw h4 h8 (h6.2.1.trans (ht.symm.trans h2.symm)))
      · rw [h8] at h6; exact h6.2.2.2.2 hw
      · exact (h5 i h8 h7).2 ⟨hc, h6.2.2.1⟩
    · rw [if_neg hw]
      have hwq : w ∈ q k := (h.qm k w).2 ⟨by omega, h2.trans ht, h4, by have := posn_lt L h1 h2; omega, hw⟩
      unfold loadS
      rw [hlen, h.bf k]
      obtain ⟨p, hp1, hp2⟩ := List.getElem_of_mem hwq
      have hp3 : (q k)[p]?.getD 0 = w := by rw [List.getElem?_eq_getElem hp1]; exact hp2
      rcases ldTo_map L (q k) hkq (cellOf L j) (q k).length (Nat.le_refl _) with ⟨_, g2⟩ | ⟨m, g1, g2, g3, g4⟩
      · exact absurd (by rw [hp3]; exact h3) (g2 p hp1)
      · rw [g3]
        show vaOf L _ = _
        have g5 := (h.qm k _).1 (hmem m g1)
        have g6 := hql _ (hmem m g1)
        have hle : ¬ (w < (q k)[m]?.getD 0) := fun hlt => (h5 _ hlt g6).2 ⟨g2, g5.2.2.1⟩
        have hmp : m = p := by
          rcases Nat.lt_trichotomy m p with g7 | g7 | g7
          · exact absurd (by rw [hp3]; exact h3) (g4 p g7 hp1)
          · exact g7
          · exfalso
            have := List.pairwise_iff_getElem.1 (h.qs k) p m hp1 g1 g7
            rw [hp2] at this
            rw [List.getElem?_eq_getElem g1] at hle
            exact hle this
        rw [hmp, hp3]

theorem FInv.drain {L : List Nat} {s : St} {tr : List Nat} {q : Nat → List Nat} (h : FInv L s tr q) {k : Nat} (hb : (s.th k).buf.isEmpty = false) : ∃ tr' q', FInv L (drainS k s) tr' q' := by
  obtain ⟨x, l, hl⟩ : ∃ x l, (s.th k).buf = x :: l := by
    cases hx : (s.th k).buf with
    | nil => simp [hx] at hb
    | cons x l => exact ⟨x, l, rfl⟩
  have hq := h.bf k
  rw [hl] at hq
  obtain ⟨e, q', hqe⟩ : ∃ e q', q k = e :: q' := by
    cases hx : q k with
    | nil => rw [hx] at hq; cases hq
    | cons e q' => exact ⟨e, q', rfl⟩
  rw [hqe, List.map_cons] at hq
  obtain ⟨hxe, hlq⟩ := List.cons.inj hq
  have hem := (h.qm k e).1 (by rw [hqe]; exact List.mem_cons_self)
  have hd : drainS k s = ⟨updN s.mem (cellOf L e) (vaOf L e), updN s.th k { s.th k with buf := l }⟩ := by
    unfold drainS
    rw [hl]
    dsimp only
    rw [hxe]
    unfold insE
    rw [hem.2.2.1, if_pos rfl]
  have hpc : ∀ j, ((drainS k s).th j).pc = (s.th j).pc := by
    intro j; rw [hd]; dsimp only
    by_cases hj : j = k
    · subst hj; rw [updN_same]
    · rw [updN_other _ _ hj]
  have hrg : ∀ j, ((drainS k s).th j).regs = (s.th j).regs := by
    intro j; rw [hd]; dsimp only
    by_cases hj : j = k
    · subst hj; rw [updN_same]
    · rw [updN_other _ _ hj]
  have hsort := h.qs k
  rw [hqe] at hsort
  have hsort := List.pairwise_cons.1 hsort
  refine ⟨e :: tr, updN q k q', List.nodup_cons.2 ⟨hem.2.2.2.2, h.nd⟩, fun i hi => ?_, fun i hi hk hp => ?_, fun j => ?_, fun j i => ?_, fun j => ?_, fun j => ?_, fun c => ?_, fun m i hm hf hp hi ht hk => ?_, fun a j b hab => ?_⟩
  · rw [hpc]
    rcases List.mem_cons.1 hi with h1 | h1
    · rw [h1, hem.2.1]; exact ⟨hem.1, hem.2.2.2.1⟩
    · exact h.lt i h1
  · rw [hpc] at hp
    exact List.mem_cons_of_mem _ (h.rd i hi hk hp)
  · rw [hd]; dsimp only
    by_cases hj : j = k
    · subst hj; rw [updN_same, updN_same]; exact hlq
    · rw [updN_other _ _ hj, updN_other _ _ hj]; exact h.bf j
  · rw [hpc]
    by_cases hj : j = k
    · subst hj
      rw [updN_same]
      constructor
      · intro hi
        have h1 := (h.qm j i).1 (by rw [hqe]; exact List.mem_cons_of_mem _ hi)
        refine ⟨h1.1, h1.2.1, h1.2.2.1, h1.2.2.2.1, fun hm => ?_⟩
        rcases List.mem_cons.1 hm with h2 | h2
        · have := hsort.1 i hi; omega
        · exact h1.2.2.2.2 h2
      · rintro ⟨h1, h2, h3, h4, h5⟩
        have h6 := (h.qm j i).2 ⟨h1, h2, h3, h4, fun hm => h5 (List.mem_cons_of_mem _ hm)⟩
        rw [hqe] at h6
        rcases List.mem_cons.1 h6 with h7 | h7
        · exact absurd (by rw [h7]; exact List.mem_cons_self) h5
        · exact h7
    · rw [updN_other _ _ hj, h.qm j i]
      constructor
      · rintro ⟨h1, h2, h3, h4, h5⟩
        refine ⟨h1, h2, h3, h4, fun hm => ?_⟩
        rcases List.mem_cons.1 hm with h6 | h6
        · rw [h6, hem.2.1] at h2; exact hj h2.symm
        · exact h5 h6
      · rintro ⟨h1, h2, h3, h4, h5⟩
        exact ⟨h1, h2, h3, h4, fun hm => h5 (List.mem_cons_of_mem _ hm)⟩
  · by_cases hj : j = k
    · subst hj; rw [updN_same]; exact hsort.2
    · rw [updN_other _ _ hj]; exact h.qs j
  · rw [hrg]; exact h.rl j
  · rw [hd]; dsimp only
    unfold lastV
    rw [lastW]
    by_cases hc : cellOf L e = c
    · rw [if_pos ⟨hem.2.2.1, hc⟩, ← hc, updN_same]
    · rw [if_neg (fun e' => hc e'.2), updN_other _ _ (fun e' => hc e'.symm)]
      exact h.me c
  · rw [hpc] at hp
    exact List.mem_cons_of_mem _ (h.fe m i hm hf hp hi ht hk)
  · rw [hrg]
    cases a with
    | nil =>
      simp only [List.nil_append, List.cons.injEq] at hab
      obtain ⟨rfl, rfl⟩ := hab
      refine ⟨fun i hi => ?_, fun hk => by rw [hem.2.2.1] at hk; cases hk⟩
      obtain ⟨h1, h2, _⟩ := (byCode_iff L i e).1 hi
      have hpi := posn_lt L h1 h2
      have hek := hem.2.1
      cases hki : kd L i
      · exact h.rd i (by omega) hki (by rw [h2, hek]; omega)
      · apply Classical.byContradiction
        intro hno
        have h6 := (h.qm k i).2 ⟨by omega, h2.trans hek, hki, by omega, hno⟩
        rw [hqe] at h6
        rcases List.mem_cons.1 h6 with h7 | h7
        · omega
        · have := hsort.1 i h7; omega
    | cons x a =>
      simp only [List.cons_append, List.cons.injEq] at hab
      exact h.hi a j b hab.2

theorem FInv.step {L : List Nat} (h16 : L.length ≤ 16) {s : St} {tr : List Nat} {q : Nat → List Nat} (h : FInv L s tr q) {k : Nat} (hk : k < L.countP lT) (hcan : canS (codeOf L) s.th k = true) :
    ∃ tr' q', FInv L (stepS (codeOf L) 1 k s) tr' q' := by
  have hpc0 := canS_pc hcan
  rw [codeOf_at L hk] at hpc0
  have hx : insOf (codeOf L) k (s.th k).pc = (cdTo L k L.length)[(s.th k).pc]?.getD rins0 := by unfold insOf; rw [codeOf_at L hk]
  have hth : ∀ j, j ≠ k → (stepS (codeOf L) 1 k s).th j = s.th j := fun j hj => updN_other _ _ hj
  have hthk : (stepS (codeOf L) 1 k s).th k = stpT (insOf (codeOf L) k (s.th k).pc) 1 s.mem s.th k := updN_same _ _ _
  have hmem : (stepS (codeOf L) 1 k s).mem = s.mem := by show stpM _ 1 s.mem = s.mem; unfold stpM; rw [if_neg (by omega)]
  rw [hx] at hthk
  have hpck : ((stepS (codeOf L) 1 k s).th k).pc = (s.th k).pc + 1 := by rw [hthk]; rfl
  have hpcm : ∀ j, (s.th j).pc ≤ ((stepS (codeOf L) 1 k s).th j).pc := by
    intro j
    by_cases hj : j = k
    · subst hj; omega
    · rw [hth j hj]; exact Nat.le_refl _
  have hrl : ∀ j, ((stepS (codeOf L) 1 k s).th j).regs.length = 16 := by
    intro j
    by_cases hj : j = k
    · subst hj; rw [hthk]; unfold stpT; dsimp only; split
      · simp; exact h.rl j
      · exact h.rl j
    · rw [hth j hj]; exact h.rl j
  have hcode := code_at L k L.length (s.th k).pc hpc0
  have hcan2 : (insOf (codeOf L) k (s.th k).pc).op = 3 → (s.th k).buf = [] := by
    intro h3
    unfold canS at hcan
    rw [h3, Bool.and_eq_true] at hcan
    simpa using hcan.2
  rw [hx] at hcan2
  generalize (stepS (codeOf L) 1 k s) = s' at *
  generalize (cdTo L k L.length)[(s.th k).pc]?.getD rins0 = ins at *
  rcases hcode with ⟨hf, hno⟩ | ⟨e, he, hte, hpe, hins⟩
  · -- a fence
    subst hf
    have hq0 : q k = [] := by
      have h1 := h.bf k
      rw [hcan2 rfl] at h1
      cases hx : q k with
      | nil => rfl
      | cons a b => rw [hx] at h1; cases h1
    have hbf : ∀ j, (s'.th j).buf = (s.th j).buf := by
      intro j
      by_cases hj : j = k
      · subst hj; rw [hthk]; rfl
      · rw [hth j hj]
    have hrg : ∀ j, (s'.th j).regs = (s.th j).regs := by
      intro j
      by_cases hj : j = k
      · subst hj; rw [hthk]; rfl
      · rw [hth j hj]
    have hlt : ∀ i, i < L.length → posn L i < (s'.th (thrOf L i)).pc → posn L i < (s.th (thrOf L i)).pc := by
      intro i hi hp
      by_cases hj : thrOf L i = k
      · rw [hj, hpck] at hp
        rw [hj]
        have := hno i hi hj
        omega
      · rw [hth _ hj] at hp; exact hp
    refine ⟨tr, q, h.nd, fun i hi => ⟨(h.lt i hi).1, Nat.lt_of_lt_of_le (h.lt i hi).2 (hpcm _)⟩, fun i hi hk' hp => h.rd i hi hk' (hlt i hi hp), fun j => by rw [hbf]; exact h.bf j, fun j i => ?_, h.qs, hrl, fun c => by rw [hmem]; exact h.me c, fun m i hm hf hp hi ht hki => ?_, fun a j b hab => ⟨(h.hi a j b hab).1, fun hkj => by rw [hrg]; exact (h.hi a j b hab).2 hkj⟩⟩
    · rw [h.qm j i]
      constructor
      · rintro ⟨h1, h2, h3, h4, h5⟩; exact ⟨h1, h2, h3, Nat.lt_of_lt_of_le h4 (hpcm _), h5⟩
      · rintro ⟨h1, h2, h3, h4, h5⟩
        refine ⟨h1, h2, h3, ?_, h5⟩
        rw [← h2] at h4 ⊢
        exact hlt i h1 h4
    · by_cases hj : thrOf L m = k
      · by_cases hp2 : posn L m ≤ (s.th k).pc
        · exact h.fe m i hm hf (by rw [hj]; exact hp2) hi ht hki
        · rw [hj, hpck] at hp
          have h1 := posn_lt L hi ht
          have h2 := hno i (by omega) (ht.trans hj)
          apply Classical.byContradiction
          intro hni
          have := (h.qm k i).2 ⟨by omega, ht.trans hj, hki, by omega, hni⟩
          rw [hq0] at this
          cases this
      · rw [hth _ hj] at hp
        exact h.fe m i hm hf hp hi ht hki
  · have hlt : ∀ i, i < L.length → posn L i < (s'.th (thrOf L i)).pc → posn L i < (s.th (thrOf L i)).pc ∨ i = e := by
      intro i hi hp
      by_cases hj : thrOf L i = k
      · rw [hj, hpck] at hp
        rw [hj]
        by_cases hq : posn L i = posn L e
        · exact Or.inr (posn_inj L (hj.trans hte.symm) hq)
        · exact Or.inl (by omega)
      · rw [hth _ hj] at hp; exact Or.inl hp
    have hfe : ∀ m i, m < L.length → fE (L[prv L m]?.getD 0) = true → posn L m ≤ (s'.th (thrOf L m)).pc → i < m → thrOf L i = thrOf L m → kd L i = true → i ∈ tr := by
      intro m i hm hf hp hi ht hki
      by_cases hj : thrOf L m = k
      · have := fence_gap L (m := m) (e := e) hf (hte.trans hj.symm)
        rw [hj, hpck] at hp
        exact h.fe m i hm hf (by rw [hj]; omega) hi ht hki
      · rw [hth _ hj] at hp
        exact h.fe m i hm hf hp hi ht hki
    have hnot : e ∉ tr := by
      intro hm
      have := (h.lt e hm).2
      rw [hte] at this
      omega
    have hpe' : posn L e < (s'.th (thrOf L e)).pc := by rw [hte, hpck]; omega
    subst hins
    cases hke : kd L e
    · -- a read
      have hie : insE L e = ⟨2, regOf L e, cellOf L e, 0⟩ := by simp [insE, hke]
      rw [hie] at hthk
      have hbf : ∀ j, (s'.th j).buf = (s.th j).buf := by
        intro j
        by_cases hj : j = k
        · subst hj; rw [hthk]; rfl
        · rw [hth j hj]
      refine ⟨e :: tr, q, List.nodup_cons.2 ⟨hnot, h.nd⟩, fun i hi => ?_, fun i hi hk' hp => ?_, fun j => by rw [hbf]; exact h.bf j, fun j i => ?_, h.qs, hrl, fun c => ?_, fun m i hm hf hp hi ht hki => List.mem_cons_of_mem _ (hfe m i hm hf hp hi ht hki), fun a j b hab => ?_⟩
      · rcases List.mem_cons.1 hi with h1 | h1
        · rw [h1]; exact ⟨he, hpe'⟩
        · exact ⟨(h.lt i h1).1, Nat.lt_of_lt_of_le (h.lt i h1).2 (hpcm _)⟩
      · rcases hlt i hi hp with h1 | h1
        · exact List.mem_cons_of_mem _ (h.rd i hi hk' h1)
        · rw [h1]; exact List.mem_cons_self
      · rw [h.qm j i]
        constructor
        · rintro ⟨h1, h2, h3, h4, h5⟩
          refine ⟨h1, h2, h3, Nat.lt_of_lt_of_le h4 (hpcm _), fun hm => ?_⟩
          rcases List.mem_cons.1 hm with h6 | h6
          · rw [h6, hke] at h3; cases h3
          · exact h5 h6
        · rintro ⟨h1, h2, h3, h4, h5⟩
          refine ⟨h1, h2, h3, ?_, fun hm => h5 (List.mem_cons_of_mem _ hm)⟩
          rw [← h2] at h4 ⊢
          rcases hlt i h1 h4 with h6 | h6
          · exact h6
          · rw [h6, hke] at h3; cases h3
      · rw [hmem, h.me c]
        unfold lastV
        rw [lastW, if_neg (by simp [hke])]
      · cases a with
        | nil =>
          simp only [List.nil_append, List.cons.injEq] at hab
          obtain ⟨rfl, rfl⟩ := hab
          refine ⟨fun i hi => ?_, fun _ => ?_⟩
          · obtain ⟨h1, h2, h3⟩ := (byCode_iff L i e).1 hi
            have hpi := posn_lt L h1 h2
            cases hki : kd L i
            · exact h.rd i (by omega) hki (by rw [h2, hte]; omega)
            · rcases h3 with h3 | h3 | ⟨m, h4, h5, h6⟩
              · rw [h3] at hki; cases hki
              · rw [h3] at hke; cases hke
              · have t1 := thr_mono L (show i ≤ m by omega)
                have t2 := thr_mono L h5
                have t3 : thrOf L m = thrOf L e := by omega
                have hpm : posn L m ≤ posn L e := by
                  rcases Nat.lt_or_eq_of_le h5 with h7 | h7
                  · exact Nat.le_of_lt (posn_lt L h7 t3)
                  · rw [h7]; exact Nat.le_refl _
                exact h.fe m i (by omega) h6 (by rw [t3, hte]; omega) h4 (by omega) hki
          · rw [hte, hthk]
            unfold stpT
            have hr : regOf L e < (s.th k).regs.length := by have := reg_le L e; rw [h.rl k]; omega
            simp [hr]
            exact h.load he hte hpe
        | cons x a =>
          simp only [List.cons_append, List.cons.injEq] at hab
          obtain ⟨rfl, hab⟩ := hab
          have hold := h.hi a j b hab
          refine ⟨hold.1, fun hkj => ?_⟩
          rw [← hold.2 hkj]
          by_cases hj : thrOf L j = k
          · rw [hj, hthk]
            unfold stpT
            dsimp only
            rw [if_pos rfl]
            have hjt : j ∈ tr := by rw [hab]; simp
            have hje : j < e := by
              have h1 := (h.lt j hjt).2
              rw [hj] at h1
              exact posn_le_iff L (hj.trans hte.symm) (by omega)
            have hrr := reg_lt L hje (hj.trans hte.symm) hkj
            rw [List.getElem?_set_ne (by omega)]
          · rw [hth _ hj]
    · -- a write
      have hie : insE L e = ⟨1, 0, cellOf L e, vaOf L e⟩ := by simp [insE, hke]
      rw [hie] at hthk
      have hrg : ∀ j, (s'.th j).regs = (s.th j).regs := by
        intro j
        by_cases hj : j = k
        · subst hj; rw [hthk]; rfl
        · rw [hth j hj]
      refine ⟨tr, updN q k (q k ++ [e]), h.nd, fun i hi => ⟨(h.lt i hi).1, Nat.lt_of_lt_of_le (h.lt i hi).2 (hpcm _)⟩, fun i hi hk' hp => ?_, fun j => ?_, fun j i => ?_, fun j => ?_, hrl, fun c => by rw [hmem]; exact h.me c, hfe, fun a j b hab => ⟨(h.hi a j b hab).1, fun hkj => by rw [hrg]; exact (h.hi a j b hab).2 hkj⟩⟩
      · rcases hlt i hi hp with h1 | h1
        · exact h.rd i hi hk' h1
        · rw [h1, hke] at hk'; cases hk'
      · by_cases hj : j = k
        · subst hj
          rw [updN_same, hthk, List.map_append, ← h.bf j]
          unfold stpT
          dsimp only
          rw [if_pos ⟨rfl, rfl⟩, List.map_singleton, hie]
        · rw [updN_other _ _ hj, hth j hj]; exact h.bf j
      · by_cases hj : j = k
        · subst hj
          rw [updN_same, List.mem_append, List.mem_singleton, h.qm j i]
          constructor
          · rintro (⟨h1, h2, h3, h4, h5⟩ | h6)
            · exact ⟨h1, h2, h3, Nat.lt_of_lt_of_le h4 (hpcm _), h5⟩
            · rw [h6]; exact ⟨he, hte, hke, by rw [hpck]; omega, hnot⟩
          · rintro ⟨h1, h2, h3, h4, h5⟩
            rw [← h2] at h4
            rcases hlt i h1 h4 with h6 | h6
            · exact Or.inl ⟨h1, h2, h3, by rw [← h2]; exact h6, h5⟩
            · exact Or.inr h6
        · rw [updN_other _ _ hj, h.qm j i, hth j hj]
      · by_cases hj : j = k
        · subst hj
          rw [updN_same, List.pairwise_append]
          refine ⟨h.qs j, by simp, fun i hi b hb => ?_⟩
          rw [List.mem_singleton] at hb
          rw [hb]
          have h1 := (h.qm j i).1 hi
          exact posn_le_iff L (h1.2.1.trans hte.symm) (by omega)
        · rw [updN_other _ _ hj]; exact h.qs j

theorem FInv.play (L : List Nat) (h16 : L.length ≤ 16) (l : List Int) : ∃ tr q, FInv L (playS (codeOf L) 1 l) tr q := by
  refine play_keeps (codeOf L) 1 (fun s => ∃ tr q, FInv L s tr q) ⟨[], _, FInv.init L⟩ ?_ l
  rintro s ⟨k, b⟩ ⟨tr, q, h⟩ hm
  obtain ⟨hk, h2⟩ := (mem_mvs _ _ _).1 hm
  rw [codeOf_length] at hk
  dsimp only at hk h2
  rcases h2 with ⟨rfl, hc⟩ | ⟨rfl, hb⟩
  · exact h.step h16 hk hc
  · exact h.drain hb

/-- where a play with buffers meets all claims, there is an order -/
theorem forbids_core (L : List Nat) (hR : Ring L) (h16 : L.length ≤ 16) (hlT : lT (L[L.length - 1]?.getD 0) = true) (hC16 : L.countP lC ≤ 16) (hS : SndC (codeOf L)) (l : List Int)
    (hmet : metS (L.countP lT) (wantOf L) (endS (L.countP lT) (playS (codeOf L) 1 l)) = true) : shown L = true := by
  have hL := hR.toLay
  obtain ⟨tr, q, hI⟩ := FInv.play L h16 l
  obtain ⟨hreads, hcells⟩ := (met_iff L _ _).1 hmet
  have hthr : ∀ i, i < L.length → thrOf L i < L.countP lT := fun i hi => thr_lt L hL.pos hlT hi
  have hall : ∀ i, i < L.length → i ∈ tr := by
    intro i hi
    have ht := hthr i hi
    have hpe := play_end (codeOf L) hS 1 (Or.inr rfl) l (thrOf L i) (by rw [codeOf_length]; exact ht)
    rw [codeOf_at L ht] at hpe
    have hp := posn_in L hi
    cases hk : kd L i
    · exact hI.rd i hi hk (by omega)
    · apply Classical.byContradiction
      intro hno
      have h1 := (hI.qm (thrOf L i) i).2 ⟨hi, rfl, hk, by omega, hno⟩
      have h2 := hI.bf (thrOf L i)
      rw [hpe.1] at h2
      have h3 : q (thrOf L i) = [] := by
        cases hx : q (thrOf L i) with
        | nil => rfl
        | cons a b => rw [hx] at h2; cases h2
      rw [h3] at h1
      cases h1
  have hread : ∀ i, i < L.length → clm L i = true → ∃ a b, tr = a ++ i :: b ∧ rdV L i b = vaOf L i ∧ kd L i = false := by
    intro i hi hc
    rw [clm_eq L hR i hi, Bool.and_eq_true] at hc
    have hk : kd L i = false := by simpa using hc.1
    have hl : lone L i = false := by simpa using hc.2
    obtain ⟨a, b, hab⟩ := List.append_of_mem (hall i hi)
    have h1 := (hI.hi a i b hab).2 hk
    have h2 := hreads i hi hk hl
    rw [endS_reg _ _ (hthr i hi) (by have := reg_le L i; omega), h1] at h2
    exact ⟨a, b, hab, h2, hk⟩
  have hcell : ∀ c, c < L.countP lC → wrs L c = 2 → lastV L c tr = 2 := by
    intro c hc hw
    have := hcells c hc hw
    rw [endS_mem _ _ (by omega), hI.me c] at this
    exact this
  have hsecond : ∀ i j, i < L.length → j < L.length → kd L i = true → kd L j = true → cellOf L i = cellOf L j → vaOf L i < vaOf L j → rnk i tr < rnk j tr := by
    intro i j hi hj hki hkj hc hv
    have hle := va_le L hL hj
    have hfew := hR.few (cellOf L j)
    have hpos := va_pos L hL hi hki
    have h2 := hcell (cellOf L j) (cell_lt L hL j) (by omega)
    unfold lastV at h2
    cases hw : lastW L (cellOf L j) tr with
    | none => rw [hw] at h2; cases h2
    | some k =>
      rw [hw] at h2
      dsimp only at h2
      obtain ⟨h3, h4, h5, h6⟩ := lastW_some hw
      have hkl := (hI.lt k h3).1
      have := va_inj L hL hkl hj h4 hkj h5 (by omega)
      subst this
      have h7 := h6 i (hall i hi) hki hc
      rcases Nat.lt_or_eq_of_le h7 with h8 | h8
      · exact h8
      · have := rnk_inj hI.nd (hall i hi) (hall _ hj) h8
        rw [this] at hv
        omega
  have hback : ∀ a i b, tr = a ++ i :: b → ∀ x, x < L.length → x ∉ b → rnk i tr ≤ rnk x tr := by
    intro a i b hab x hx hxb
    have hm := hall x hx
    rw [hab] at hm
    rcases List.mem_append.1 hm with h1 | h1
    · obtain ⟨a1, a2, ha⟩ := List.append_of_mem h1
      exact Nat.le_of_lt (rnk_lt (tr := tr) (a := a1) (b := a2 ++ i :: b) (j := x) (i := i) (by rw [hab, ha]; simp) hI.nd (by simp))
    · rcases List.mem_cons.1 h1 with h2 | h2
      · rw [h2]; exact Nat.le_refl _
      · exact absurd h2 hxb
  -- the youngest write of a cell among b is the youngest of them all in b
  have hyoung : ∀ a i b, tr = a ++ i :: b → ∀ c k, lastW L c b = some k → k ∈ b ∧ kd L k = true ∧ cellOf L k = c ∧ ∀ x, x ∈ b → kd L x = true → cellOf L x = c → rnk x tr ≤ rnk k tr := by
    intro a i b hab c k hw
    obtain ⟨h3, h4, h5, h6⟩ := lastW_some hw
    refine ⟨h3, h4, h5, fun x hx hkx hcx => ?_⟩
    have h8 := h6 x hx hkx hcx
    have hnd2 := hI.nd
    rw [hab, List.nodup_append] at hnd2
    have hoff : ∀ x, x ∈ b → x ∉ a ++ [i] := by
      intro x hx h
      rcases List.mem_append.1 h with h | h
      · exact hnd2.2.2 x h x (List.mem_cons_of_mem _ hx) rfl
      · rw [List.mem_singleton] at h
        subst h
        exact (List.nodup_cons.1 hnd2.2.1).1 hx
    have e1 : tr = (a ++ [i]) ++ b := by rw [hab]; simp
    rw [e1, rnk_in (hoff k h3), rnk_in (hoff x hx)]
    exact h8
  refine shown_of_rank (fun i => rnk i tr) (fun f s hf hs hh => ?_)
  unfold hap at hh
  rw [Bool.or_eq_true] at hh
  rcases hh with hh | hh
  · obtain ⟨a, b, hab⟩ := List.append_of_mem (hall s hs)
    exact rnk_lt hab hI.nd ((hI.hi a s b hab).1 f hh)
  · unfold byVal at hh
    rw [Bool.and_eq_true, beq_iff_eq, vB_eq L hL f hf, vB_eq L hL s hs] at hh
    obtain ⟨hc, hh⟩ := hh
    cases hks : kd L s
    · rw [hks, if_neg (by simp)] at hh
      by_cases hz : (!kd L f || !clm L s) = true
      · rw [if_pos hz] at hh; cases hh
      · rw [if_neg hz] at hh
        rw [Bool.or_eq_true, not_or] at hz
        have hkf : kd L f = true := by simpa using hz.1
        have hcs : clm L s = true := by simpa using hz.2
        obtain ⟨a, b, hab, hv, _⟩ := hread s hs hcs
        have hpos := va_pos L hL hf hkf
        apply rnk_lt hab hI.nd
        apply Classical.byContradiction
        intro hfb
        unfold rdV at hv
        have hlast : vaOf L f = vaOf L s → lastV L (cellOf L s) b = vaOf L s → False := by
          intro e1 e2
          unfold lastV at e2
          cases hw : lastW L (cellOf L s) b with
          | none => rw [hw] at e2; dsimp only at e2; omega
          | some k =>
            rw [hw] at e2
            dsimp only at e2
            obtain ⟨h3, h4, h5, _⟩ := lastW_some hw
            have hkt : k ∈ tr := by rw [hab]; simp [h3]
            have := va_inj L hL (hI.lt k hkt).1 hf h4 hkf (h5.trans hc.symm) (e2.trans e1.symm)
            rw [this] at h3
            exact hfb h3
        by_cases how : ownW L s = some f
        · rw [if_pos how] at hh
          rw [how] at hv
          dsimp only at hv
          rw [if_neg hfb] at hv
          rw [hv] at hh
          simp at hh
        · rw [if_neg how, beq_iff_eq] at hh
          cases ho : ownW L s with
          | none => rw [ho] at hv; exact hlast hh hv
          | some w =>
            rw [ho] at hv
            dsimp only at hv
            by_cases hw : w ∈ b
            · rw [if_pos hw] at hv; exact hlast hh hv
            · rw [if_neg hw] at hv
              obtain ⟨h1, h2, h3, h4, _⟩ := ownTo_some L s s w ho
              have := va_inj L hL (show w < L.length by omega) hf h4 hkf (h3.trans hc.symm) (hv.trans hh.symm)
              rw [this] at ho
              exact how ho
    · rw [hks, if_pos rfl, Bool.and_eq_true, decide_eq_true_iff, Bool.or_eq_true] at hh
      obtain ⟨hlt, hor⟩ := hh
      by_cases hkf : kd L f = true
      · exact hsecond f s hf hs hkf hks hc hlt
      · have hcf : clm L f = true := by
          rcases hor with h | h
          · exact absurd h hkf
          · exact h
        obtain ⟨a, b, hab, hv, hkf2⟩ := hread f hf hcf
        apply Nat.lt_of_not_le
        intro hge
        have hne : f ≠ s := fun e => by rw [e] at hlt; omega
        have hsb : s ∈ b := by
          apply Classical.byContradiction
          intro hno
          have := hback a f b hab s hs hno
          exact hne (rnk_inj hI.nd (hall f hf) (hall s hs) (by omega))
        have hsf := rnk_lt hab hI.nd hsb
        have hlast : lastV L (cellOf L f) b = vaOf L f → False := by
          intro e2
          unfold lastV at e2
          cases hw : lastW L (cellOf L f) b with
          | none => exact lastW_none hw s hsb hks hc.symm
          | some k =>
            rw [hw] at e2
            dsimp only at e2
            obtain ⟨h3, h4, h5, h6⟩ := hyoung a f b hab _ k hw
            have hkt : k ∈ tr := by rw [hab]; simp [h3]
            have h7 := h6 s hsb hks hc.symm
            have h8 := hsecond k s (hI.lt k hkt).1 hs h4 hks (h5.trans hc) (by omega)
            omega
        unfold rdV at hv
        cases ho : ownW L f with
        | none => rw [ho] at hv; exact hlast hv
        | some w =>
          rw [ho] at hv
          dsimp only at hv
          by_cases hw : w ∈ b
          · rw [if_pos hw] at hv; exact hlast hv
          · rw [if_neg hw] at hv
            obtain ⟨h1, h2, h3, h4, _⟩ := ownTo_some L f f w ho
            have h5 := hback a f b hab w (by omega) hw
            have h8 := hsecond w s (by omega) hs h4 hks (h3.trans hc) (by omega)
            omega

end Go.Proofs.YtokfiflflcfidabDoor
