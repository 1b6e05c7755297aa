import Derived.Test.YtokfiflflcfidabDoorCdM
import Derived.Test.YtokfiflflcfidabDoorPkY
import Derived.Test.YtokfiflflcfidabDoorFrmM
import Derived.Test.YtokfiflflcfidabDoorRows
import Derived.Test.YtokfiflflcfidabDoorQtoR
import Derived.Test.YtokfiflflcfidabDoorLblW
import Derived.WalkKit
import Derived.WalkSpells
import Derived.WalkLawsBesides
namespace Go.Proofs.YtokfiflflcfidabDoor
open Go.RowKit

/-- the youngest write of cell c among the events that were made (the youngest first) -/
def lastW (L : List Nat) (c : Nat) : List Nat → Option Nat
  | [] => none
  | i :: l => if kd L i = true ∧ cellOf L i = c then some i else lastW L c l
def lastV (L : List Nat) (c : Nat) (l : List Nat) : Nat := match lastW L c l with | none => 0 | some i => vaOf L i
/-- when event j was made -/
def rnk (j : Nat) : List Nat → Nat
  | [] => 0
  | i :: l => if i = j then l.length + 1 else rnk j l

theorem rnk_le (j : Nat) (l : List Nat) : rnk j l ≤ l.length := by
  induction l with
  | nil => exact Nat.le_refl _
  | cons i l ih => rw [rnk]; split <;> simp <;> omega
theorem rnk_in {j : Nat} {a b : List Nat} (hj : j ∉ a) : rnk j (a ++ b) = rnk j b := by
  induction a with
  | nil => rfl
  | cons i a ih =>
    rw [List.cons_append, rnk, if_neg (fun e : i = j => hj (by rw [← e]; exact List.mem_cons_self)), ih (fun h => hj (List.mem_cons_of_mem _ h))]
theorem rnk_pos {j : Nat} {l : List Nat} (h : j ∈ l) : 0 < rnk j l := by
  induction l with
  | nil => cases h
  | cons i l ih =>
    rw [rnk]
    by_cases hij : i = j
    · rw [if_pos hij]; omega
    · rw [if_neg hij]
      rcases List.mem_cons.1 h with h | h
      · exact absurd h.symm hij
      · exact ih h
/-- what was made earlier has a lower number -/
theorem rnk_lt {tr a b : List Nat} {i j : Nat} (ht : tr = a ++ j :: b) (hnd : tr.Nodup) (hi : i ∈ b) : rnk i tr < rnk j tr := by
  subst ht
  rw [List.nodup_append] at hnd
  have hja : j ∉ a := fun h => hnd.2.2 j h j (List.mem_cons_self) rfl
  have hia : i ∉ a := fun h => hnd.2.2 i h i (List.mem_cons_of_mem _ hi) rfl
  have hij : j ≠ i := by
    intro e
    subst e
    exact (List.nodup_cons.1 hnd.2.1).1 hi
  have e1 : rnk j (j :: b) = b.length + 1 := by rw [rnk, if_pos rfl]
  have e2 : rnk i (j :: b) = rnk i b := by rw [rnk, if_neg hij]
  rw [rnk_in hja, rnk_in hia, e1, e2]
  have := rnk_le i b
  omega
theorem rnk_inj {l : List Nat} (hnd : l.Nodup) {i j : Nat} (hi : i ∈ l) (hj : j ∈ l) (h : rnk i l = rnk j l) : i = j := by
  obtain ⟨a, b, rfl⟩ := List.append_of_mem hj
  have hnd' := hnd
  rw [List.nodup_append] at hnd
  have hja : j ∉ a := fun h => hnd.2.2 j h j (List.mem_cons_self) rfl
  rcases List.mem_append.1 hi with h1 | h1
  · obtain ⟨a1, a2, rfl⟩ := List.append_of_mem h1
    have := rnk_lt (tr := a1 ++ i :: (a2 ++ j :: b)) (a := a1) (b := a2 ++ j :: b) (j := i) (i := j) rfl (by simpa using hnd') (by simp)
    simp only [List.append_assoc, List.cons_append] at h
    omega
  · rcases List.mem_cons.1 h1 with h2 | h2
    · exact h2
    · have := rnk_lt (i := i) (j := j) rfl hnd' h2
      omega

theorem lastW_some {L : List Nat} {c k : Nat} {l : List Nat} (h : lastW L c l = some k) : k ∈ l ∧ kd L k = true ∧ cellOf L k = c ∧ ∀ i ∈ l, kd L i = true → cellOf L i = c → rnk i l ≤ rnk k l := by
  induction l with
  | nil => cases h
  | cons x l ih =>
    rw [lastW] at h
    by_cases hx : kd L x = true ∧ cellOf L x = c
    · rw [if_pos hx] at h
      obtain rfl := Option.some.inj h
      refine ⟨List.mem_cons_self, hx.1, hx.2, fun i _ _ _ => ?_⟩
      conv => rhs; rw [rnk, if_pos rfl]
      exact rnk_le _ _
    · rw [if_neg hx] at h
      obtain ⟨h1, h2, h3, h4⟩ := ih h
      refine ⟨List.mem_cons_of_mem _ h1, h2, h3, fun i hi hki hci => ?_⟩
      have hxi : x ≠ i := fun e => hx (e ▸ ⟨hki, hci⟩)
      have hxk : x ≠ k := fun e => hx (e ▸ ⟨h2, h3⟩)
      rw [rnk, if_neg hxi, rnk, if_neg hxk]
      rcases List.mem_cons.1 hi with h5 | h5
      · exact absurd h5.symm hxi
      · exact h4 i h5 hki hci
theorem lastW_none {L : List Nat} {c : Nat} {l : List Nat} (h : lastW L c l = none) : ∀ i ∈ l, kd L i = true → cellOf L i ≠ c := by
  induction l with
  | nil => intro i hi; cases hi
  | cons x l ih =>
    rw [lastW] at h
    split at h
    · cases h
    · rename_i hx
      intro i hi hk hc
      rcases List.mem_cons.1 hi with h5 | h5
      · subst h5; exact hx ⟨hk, hc⟩
      · exact ih h i h5 hk hc

/-- the machine that writes at once, behind the events tr (the youngest first) -/
structure NInv (L : List Nat) (s : St) (tr : List Nat) : Prop where
  nd : tr.Nodup
  dn : ∀ i, i ∈ tr ↔ i < L.length ∧ posn L i < (s.th (thrOf L i)).pc
  bf : ∀ k, (s.th k).buf = []
  rl : ∀ k, (s.th k).regs.length = 16
  me : ∀ c, s.mem c = lastV L c tr
  hi : ∀ a j b, tr = a ++ j :: b → (∀ i, i < j → thrOf L i = thrOf L j → i ∈ b) ∧ (kd L j = false → (s.th (thrOf L j)).regs[regOf L j]?.getD 0 = lastV L (cellOf L j) b)

theorem NInv.init (L : List Nat) : NInv L st0 [] where
  nd := List.nodup_nil
  dn := fun i => ⟨fun h => absurd h List.not_mem_nil, fun h => absurd h.2 (Nat.not_lt_zero _)⟩
  bf := fun _ => rfl
  rl := fun _ => by simp [st0]
  me := fun _ => rfl
  hi := fun a j b h => by simp at h

theorem ldTo_nil (c : Nat) (mem : Nat → Nat) (th : Nat → Th) (k : Nat) (h : (th k).buf = []) : loadS mem th k c = mem c := by
  unfold loadS; rw [h]; rfl

theorem NInv.step {L : List Nat} (h16 : L.length ≤ 16) {s : St} {tr : List Nat} (h : NInv L s tr) {k : Nat} (hk : k < L.countP lT) (hpc : (s.th k).pc < (cdTo L k L.length).length) :
    ∃ tr', NInv L (stepS (codeOf L) 0 k s) tr' := by
  have hx : insOf (codeOf L) k (s.th k).pc = (cdTo L k L.length)[(s.th k).pc]?.getD rins0 := by unfold insOf; rw [codeOf_at L hk]
  have hth : ∀ j, j ≠ k → (stepS (codeOf L) 0 k s).th j = s.th j := fun j hj => updN_other _ _ hj
  have hthk : (stepS (codeOf L) 0 k s).th k = stpT (insOf (codeOf L) k (s.th k).pc) 0 s.mem s.th k := updN_same _ _ _
  have hmem : (stepS (codeOf L) 0 k s).mem = stpM (insOf (codeOf L) k (s.th k).pc) 0 s.mem := rfl
  rw [hx] at hthk hmem
  have hpck : ((stepS (codeOf L) 0 k s).th k).pc = (s.th k).pc + 1 := by rw [hthk]; rfl
  have hbf : ∀ j, ((stepS (codeOf L) 0 k s).th j).buf = [] := by
    intro j
    by_cases hj : j = k
    · subst hj; rw [hthk]; unfold stpT; dsimp only; rw [if_neg (by omega)]; exact h.bf j
    · rw [hth j hj]; exact h.bf j
  have hrl : ∀ j, ((stepS (codeOf L) 0 k s).th j).regs.length = 16 := by
    intro j
    by_cases hj : j = k
    · subst hj; rw [hthk]; unfold stpT; dsimp only; split
      · simp; exact h.rl j
      · exact h.rl j
    · rw [hth j hj]; exact h.rl j
  rcases code_at L k L.length (s.th k).pc hpc with ⟨hf, hno⟩ | ⟨i, hi, hti, hpi, hins⟩
  · rw [hf] at hthk hmem
    refine ⟨tr, h.nd, fun j => ?_, hbf, hrl, ?_, fun a j b hab => ⟨(h.hi a j b hab).1, fun hkj => ?_⟩⟩
    · rw [h.dn j]
      by_cases hj : thrOf L j = k
      · rw [hj, hpck]
        constructor
        · rintro ⟨h1, h2⟩; exact ⟨h1, by omega⟩
        · rintro ⟨h1, h2⟩
          have := hno j h1 hj
          exact ⟨h1, by omega⟩
      · rw [hth _ hj]
    · intro c
      rw [hmem]
      exact h.me c
    · rw [← (h.hi a j b hab).2 hkj]
      by_cases hj : thrOf L j = k
      · rw [hj, hthk]; rfl
      · rw [hth _ hj]
  · rw [hins] at hthk hmem
    have hnot : i ∉ tr := by
      intro hm
      have := ((h.dn i).1 hm).2
      rw [hti] at this
      omega
    refine ⟨i :: tr, List.nodup_cons.2 ⟨hnot, h.nd⟩, fun j => ?_, hbf, hrl, ?_, fun a j b hab => ?_⟩
    · rw [List.mem_cons, h.dn j]
      by_cases hj : thrOf L j = k
      · rw [hj, hpck]
        constructor
        · rintro (h1 | ⟨h1, h2⟩)
          · subst h1; exact ⟨hi, by omega⟩
          · exact ⟨h1, by omega⟩
        · rintro ⟨h1, h2⟩
          by_cases hji : posn L j = posn L i
          · exact Or.inl (posn_inj L (hj.trans hti.symm) hji)
          · exact Or.inr ⟨h1, by omega⟩
      · rw [hth _ hj]
        constructor
        · rintro (h1 | h1)
          · subst h1; exact absurd hti hj
          · exact h1
        · exact Or.inr
    · intro c
      rw [hmem]
      unfold stpM insE
      cases hki : kd L i
      · rw [if_neg (by simp)]
        rw [h.me c]
        unfold lastV
        rw [lastW, if_neg (by simp [hki])]
      · rw [if_pos ⟨by simp, rfl⟩]
        simp only [if_true]
        unfold lastV
        rw [lastW]
        by_cases hc : cellOf L i = c
        · rw [if_pos ⟨hki, hc⟩, ← hc, updN_same]
        · rw [if_neg (fun e => hc e.2), updN_other _ _ (fun e => hc e.symm)]
          exact h.me c
    · cases a with
      | nil =>
        simp only [List.nil_append, List.cons.injEq] at hab
        obtain ⟨rfl, rfl⟩ := hab
        refine ⟨fun j hj htj => ?_, fun hki => ?_⟩
        · rw [h.dn j]
          have := posn_lt L hj htj
          refine ⟨by omega, ?_⟩
          rw [htj, hti]
          omega
        · have hie : insE L i = ⟨2, regOf L i, cellOf L i, 0⟩ := by simp [insE, hki]
          rw [hti, hthk, hie]
          unfold stpT
          have hr : regOf L i < (s.th k).regs.length := by have := reg_le L i; rw [h.rl k]; omega
          simp [hr]
          rw [ldTo_nil _ _ _ _ (h.bf k)]
          exact h.me _
      | cons x a =>
        simp only [List.cons_append, List.cons.injEq] at hab
        obtain ⟨rfl, hab⟩ := hab
        have hold := h.hi a j b hab
        refine ⟨hold.1, fun hkj => ?_⟩
        rw [← hold.2 hkj]
        by_cases hj : thrOf L j = k
        · rw [hj, hthk]
          unfold stpT
          dsimp only
          split
          · rename_i hop
            have hki : kd L i = false := by
              cases hki : kd L i
              · rfl
              · simp [insE, hki] at hop
            have hjt : j ∈ tr := by rw [hab]; simp
            have hji : j < i := by
              have h1 := ((h.dn j).1 hjt).2
              rw [hj] at h1
              rcases Nat.lt_trichotomy j i with h2 | h2 | h2
              · exact h2
              · subst h2; exact absurd hjt hnot
              · have := posn_lt L h2 (hti.trans hj.symm); omega
            have hrr := reg_lt L hji (hj.trans hti.symm) hkj
            have : (insE L i).reg = regOf L i := by simp [insE, hki]
            rw [this, List.getElem?_set_ne (by omega)]
          · rfl
        · rw [hth _ hj]

theorem NInv.play (L : List Nat) (h16 : L.length ≤ 16) (l : List Int) : ∃ tr, NInv L (playS (codeOf L) 0 l) tr := by
  refine play_keeps (codeOf L) 0 (fun s => ∃ tr, NInv L s tr) ⟨[], NInv.init L⟩ ?_ l
  rintro s ⟨k, b⟩ ⟨tr, h⟩ hm
  obtain ⟨hk, h2⟩ := (mem_mvs _ _ _).1 hm
  rw [codeOf_length] at hk
  dsimp only at hk h2
  rcases h2 with ⟨rfl, hc⟩ | ⟨rfl, hb⟩
  · have := canS_pc hc
    rw [codeOf_at L hk] at this
    exact h.step h16 hk this
  · rw [h.bf k] at hb
    cases hb

/-- no cycle is gone round on the machine that writes at once -/
theorem never_core (L : List Nat) (hR : Ring L) (h16 : L.length ≤ 16) (hlT : lT (L[L.length - 1]?.getD 0) = true) (hC16 : L.countP lC ≤ 16) (hS : SndC (codeOf L)) (l : List Int) :
    metS (L.countP lT) (wantOf L) (endS (L.countP lT) (playS (codeOf L) 0 l)) = false := by
  cases hmet : metS (L.countP lT) (wantOf L) (endS (L.countP lT) (playS (codeOf L) 0 l))
  · rfl
  · exfalso
    have hL := hR.toLay
    obtain ⟨tr, hI⟩ := NInv.play L h16 l
    obtain ⟨hreads, hcells⟩ := (met_iff L _ _).1 hmet
    have hthr : ∀ i, i < L.length → thrOf L i < L.countP lT := fun i hi => thr_lt L hL.pos hlT hi
    have hall : ∀ i, i < L.length → i ∈ tr := by
      intro i hi
      have ht := hthr i hi
      have := (play_end (codeOf L) hS 0 (Or.inl rfl) l (thrOf L i) (by rw [codeOf_length]; exact ht)).2
      rw [codeOf_at L ht] at this
      have hp := posn_in L hi
      exact (hI.dn i).2 ⟨hi, by omega⟩
    have hread : ∀ i, i < L.length → kd L i = false → lone L i = false → ∃ a b, tr = a ++ i :: b ∧ lastV L (cellOf L i) b = vaOf L i := by
      intro i hi hk hl
      obtain ⟨a, b, hab⟩ := List.append_of_mem (hall i hi)
      have h1 := (hI.hi a i b hab).2 hk
      have h2 := hreads i hi hk hl
      rw [endS_reg _ _ (hthr i hi) (by have := reg_le L i; omega), h1] at h2
      exact ⟨a, b, hab, h2⟩
    have hcell : ∀ c, c < L.countP lC → wrs L c = 2 → lastV L c tr = 2 := by
      intro c hc hw
      have := hcells c hc hw
      rw [endS_mem _ _ (by omega), hI.me c] at this
      exact this
    -- the second write of a cell was made last
    have hsecond : ∀ i j, i < L.length → j < L.length → kd L i = true → kd L j = true → cellOf L i = cellOf L j → vaOf L j = 2 → rnk i tr ≤ rnk j tr := by
      intro i j hi hj hki hkj hc hv
      have hle := va_le L hL hj
      have hfew := hR.few (cellOf L j)
      have h2 := hcell (cellOf L j) (cell_lt L hL j) (by omega)
      unfold lastV at h2
      cases hw : lastW L (cellOf L j) tr with
      | none => rw [hw] at h2; cases h2
      | some k =>
        rw [hw] at h2
        dsimp only at h2
        obtain ⟨h3, h4, h5, h6⟩ := lastW_some hw
        have hkl := ((hI.dn k).1 h3).1
        have := va_inj L hL hkl hj h4 hkj h5 (h2.trans hv.symm)
        subst this
        exact h6 i (hall i hi) hki hc
    have hfwd : ∀ i, i < L.length → rnk i tr < rnk (nxt L i) tr := by
      intro i hi
      have hjl := nxt_lt L hL i
      have he := getD_lt hR.small i
      have hjo := hR.joins i hi
      by_cases hin : lT (L[i]?.getD 0) = false
      · -- in the same thread
        have hne : i + 1 ≠ L.length := by
          intro e
          rw [← e, show i + 1 - 1 = i from by omega, hin] at hlT
          cases hlT
        have hnx : nxt L i = i + 1 := Nat.mod_eq_of_lt (by omega)
        have hts : thrOf L (i + 1) = thrOf L i := by
          have := thr_succ L i hi
          rw [hin] at this
          simpa [b1] using this
        obtain ⟨a, b, hab⟩ := List.append_of_mem (hall (nxt L i) hjl)
        have h1 := (hI.hi a _ b hab).1 i (by omega) (by rw [hnx, hts])
        exact rnk_lt hab hI.nd h1
      · have hin : lT (L[i]?.getD 0) = true := by simpa using hin
        have hm : lC (L[i]?.getD 0) = false := by
          rcases cases14 he with h | h | h | h | h | h | h | h | h | h | h | h | h | h <;> rw [h] at hin ⊢ <;> revert hin <;> decide
        have hva := va_nxt L hL hi hm
        have hce : cellOf L (nxt L i) = cellOf L i := cell_next L hL hi hm
        have hpn := prv_nxt L hL hi
        have hlej := va_le L hL hjl
        have hfew := hR.few (cellOf L (nxt L i))
        have hne : i ≠ nxt L i := by
          intro e
          rcases edge_kinds he hm with ⟨_, _, _, d, e'⟩ | ⟨_, _, _, d, e'⟩ | ⟨_, _, _, d, e'⟩
          · rw [e', ← e] at hjo; unfold kd at hjo; rw [d] at hjo; cases hjo
          · rw [hjo, e', show b1 true = 1 from rfl, ← e] at hva; omega
          · rw [e', ← e] at hjo; unfold kd at hjo; rw [d] at hjo; cases hjo
        rcases edge_kinds he hm with ⟨_, _, _, d, e⟩ | ⟨_, _, _, d, e⟩ | ⟨_, _, _, d, e⟩
        · -- Rf
          rw [e] at hjo
          have hki : kd L i = true := d
          rw [hjo, show b1 false = 0 from rfl, Nat.add_zero] at hva
          obtain ⟨a, b, hab, hlv⟩ := hread (nxt L i) hjl hjo (by unfold lone; rw [hpn, hm]; rfl)
          have hpos := va_pos L hL hi hki
          unfold lastV at hlv
          cases hw : lastW L (cellOf L (nxt L i)) b with
          | none => rw [hw] at hlv; dsimp only at hlv; omega
          | some k =>
            rw [hw] at hlv
            dsimp only at hlv
            obtain ⟨h3, h4, h5, h6⟩ := lastW_some hw
            have hkt : k ∈ tr := by rw [hab]; simp [h3]
            have hkl := ((hI.dn k).1 hkt).1
            have := va_inj L hL hkl hi h4 hki (h5.trans hce) (hlv.trans hva)
            subst this
            exact rnk_lt hab hI.nd h3
        · -- Co
          rw [e] at hjo
          have hki : kd L i = true := d
          rw [hjo, show b1 true = 1 from rfl] at hva
          have hpos := va_pos L hL hi hki
          have h1 := hsecond i (nxt L i) hi hjl hki hjo hce.symm (by omega)
          rcases Nat.lt_or_eq_of_le h1 with h2 | h2
          · exact h2
          · exact absurd (rnk_inj hI.nd (hall i hi) (hall _ hjl) h2) hne
        · -- Fr
          rw [e] at hjo
          have hki : kd L i = false := d
          rw [hjo, show b1 true = 1 from rfl] at hva
          obtain ⟨a, b, hab, hlv⟩ := hread i hi hki (by unfold lone; rw [hm, Bool.and_false])
          apply Nat.lt_of_not_le
          intro hge
          have hlt : rnk (nxt L i) tr < rnk i tr := by
            rcases Nat.lt_or_eq_of_le hge with h2 | h2
            · exact h2
            · exact absurd (rnk_inj hI.nd (hall i hi) (hall _ hjl) h2.symm) hne
          have hjb : nxt L i ∈ b := by
            have hm' := hall (nxt L i) hjl
            rw [hab] at hm'
            rcases List.mem_append.1 hm' with h1 | h1
            · exfalso
              obtain ⟨a1, a2, ha⟩ := List.append_of_mem h1
              have := rnk_lt (tr := tr) (a := a1) (b := a2 ++ i :: b) (j := nxt L i) (i := i) (by rw [hab, ha]; simp) hI.nd (by simp)
              omega
            · rcases List.mem_cons.1 h1 with h2 | h2
              · exact absurd h2.symm hne
              · exact h2
          unfold lastV at hlv
          cases hw : lastW L (cellOf L i) b with
          | none => exact lastW_none hw _ hjb hjo hce
          | some k =>
            rw [hw] at hlv
            dsimp only at hlv
            obtain ⟨h3, h4, h5, h6⟩ := lastW_some hw
            have hkt : k ∈ tr := by rw [hab]; simp [h3]
            have hkl := ((hI.dn k).1 hkt).1
            have hpos := va_pos L hL hkl h4
            have h7 := hsecond k (nxt L i) hkl hjl h4 hjo (h5.trans hce.symm) (by omega)
            have h8 := h6 (nxt L i) hjb hjo hce
            have hnd2 := hI.nd
            rw [hab, List.nodup_append] at hnd2
            have hoff : ∀ x, x ∈ b → x ∉ a ++ [i] := by
              intro x hx h
              rcases List.mem_append.1 h with h | h
              · exact hnd2.2.2 x h x (List.mem_cons_of_mem _ hx) rfl
              · rw [List.mem_singleton] at h
                subst h
                exact (List.nodup_cons.1 hnd2.2.1).1 hx
            have e1 : tr = (a ++ [i]) ++ b := by rw [hab]; simp
            rw [e1, rnk_in (hoff k h3), rnk_in (hoff _ hjb)] at h7
            have : k = nxt L i := rnk_inj (List.nodup_cons.1 hnd2.2.1).2 h3 hjb (by omega)
            rw [this] at hlv
            omega
    -- round the cycle
    have hup : ∀ i, i < L.length → rnk 0 tr + i ≤ rnk i tr := by
      intro i
      induction i with
      | zero => intro _; omega
      | succ i ih =>
        intro hi
        have h1 := ih (by omega)
        have h2 := hfwd i (by omega)
        rw [show nxt L i = i + 1 from Nat.mod_eq_of_lt hi] at h2
        omega
    have hp := hL.pos
    have h1 := hup (L.length - 1) (by omega)
    have h2 := hfwd (L.length - 1) (by omega)
    rw [show nxt L (L.length - 1) = 0 from by unfold nxt; rw [show L.length - 1 + 1 = L.length from by omega, Nat.mod_self]] at h2
    omega

end Go.Proofs.YtokfiflflcfidabDoor

namespace Go.Proofs.YtokfiflflcfidabDoor
open Go.RowKit

/-- what read j takes behind the happenings b -/
def rdV (L : List Nat) (j : Nat) (b : List Nat) : Nat :=
  match ownW L j with
  | none => lastV L (cellOf L j) b
  | some w => if w ∈ b then lastV L (cellOf L j) b else vaOf L w

/-- the machine with buffers, behind the happenings tr (the youngest first); q: the writes that wait -/
structure FInv (L : List Nat) (s : St) (tr : List Nat) (q : Nat → List Nat) : Prop where
  nd : tr.Nodup
  lt : ∀ i, i ∈ tr → i < L.length ∧ posn L i < (s.th (thrOf L i)).pc
  rd : ∀ i, i < L.length → kd L i = false → posn L i < (s.th (thrOf L i)).pc → i ∈ tr
  bf : ∀ k, (s.th k).buf = (q k).map (insE L)
  qm : ∀ k i, i ∈ q k ↔ i < L.length ∧ thrOf L i = k ∧ kd L i = true ∧ posn L i < (s.th k).pc ∧ i ∉ tr
  qs : ∀ k, (q k).Pairwise (· < ·)
  rl : ∀ k, (s.th k).regs.length = 16
  me : ∀ c, s.mem c = lastV L c tr
  fe : ∀ m i, m < L.length → fE (L[prv L m]?.getD 0) = true → posn L m ≤ (s.th (thrOf L m)).pc → i < m → thrOf L i = thrOf L m → kd L i = true → i ∈ tr
  hi : ∀ a j b, tr = a ++ j :: b → (∀ i, byCode L i j = true → i ∈ b) ∧ (kd L j = false → (s.th (thrOf L j)).regs[regOf L j]?.getD 0 = rdV L j b)

/-- ahead of an event with a fence stands no other event's instruction -/
theorem fence_gap (L : List Nat) {m e : Nat} (hf : fE (L[prv L m]?.getD 0) = true) (ht : thrOf L e = thrOf L m) : posn L e + 1 ≠ posn L m := by
  intro h
  have h1 := posn_eq L m
  have h2 : (em L m).length = 2 := by unfold em; rw [if_pos hf]; rfl
  rcases Nat.lt_trichotomy e m with h3 | h3 | h3
  · have := posn_in L h3
    rw [ht] at this
    omega
  · subst h3; omega
  · have := posn_lt L h3 ht.symm
    omega
theorem fence_pos (L : List Nat) {m : Nat} (hf : fE (L[prv L m]?.getD 0) = true) : 0 < posn L m := by
  have h1 := posn_eq L m
  have h2 : (em L m).length = 2 := by unfold em; rw [if_pos hf]; rfl
  omega
theorem posn_le_iff (L : List Nat) {i j : Nat} (ht : thrOf L i = thrOf L j) (h : posn L i < posn L j) : i < j := by
  rcases Nat.lt_trichotomy i j with h1 | h1 | h1
  · exact h1
  · subst h1; omega
  · have := posn_lt L h1 ht.symm; omega

/-- the youngest waiting store of a cell -/
theorem ldTo_map (L : List Nat) (q : List Nat) (hk : ∀ i ∈ q, kd L i = true) (c n : Nat) (hn : n ≤ q.length) :
    (ldTo (q.map (insE L)) c n = none ∧ ∀ m, m < n → cellOf L (q[m]?.getD 0) ≠ c) ∨
    ∃ m, m < n ∧ cellOf L (q[m]?.getD 0) = c ∧ ldTo (q.map (insE L)) c n = some (vaOf L (q[m]?.getD 0)) ∧ ∀ p, m < p → p < n → cellOf L (q[p]?.getD 0) ≠ c := by
  induction n with
  | zero => exact Or.inl ⟨rfl, fun m hm => by omega⟩
  | succ n ih =>
    have hx : (q.map (insE L))[n]?.getD rins0 = ⟨1, 0, cellOf L (q[n]?.getD 0), vaOf L (q[n]?.getD 0)⟩ := by
      have hkn := hk (q[n]?.getD 0) (by rw [List.getElem?_eq_getElem (by omega)]; exact List.getElem_mem _)
      rw [List.getElem?_map, List.getElem?_eq_getElem (by omega)] at *
      simp only [Option.map_some, Option.getD_some] at *
      unfold insE
      rw [hkn, if_pos rfl]
    rw [ldTo, hx]
    dsimp only
    by_cases hc : cellOf L (q[n]?.getD 0) = c
    · rw [if_pos hc]
      exact Or.inr ⟨n, by omega, hc, rfl, fun p h1 h2 => by omega⟩
    · rw [if_neg hc]
      rcases ih (by omega) with ⟨h1, h2⟩ | ⟨m, h1, h2, h3, h4⟩
      · refine Or.inl ⟨h1, fun m hm => ?_⟩
        by_cases hmn : m = n
        · rw [hmn]; exact hc
        · exact h2 m (by omega)
      · refine Or.inr ⟨m, by omega, h2, h3, fun p hp1 hp2 => ?_⟩
        by_cases hpn : p = n
        · rw [hpn]; exact hc
        · exact h4 p hp1 (by omega)

theorem FInv.init (L : List Nat) : FInv L st0 [] (fun _ => []) where
  nd := List.nodup_nil
  lt := fun i h => by cases h
  rd := fun i _ _ h => absurd h (Nat.not_lt_zero _)
  bf := fun _ => rfl
  qm := fun k i => Iff.intro (fun h => absurd h List.not_mem_nil) (fun h => absurd h.2.2.2.1 (Nat.not_lt_zero _))
  qs := fun _ => List.Pairwise.nil
  rl := fun _ => by simp [st0]
  me := fun _ => rfl
  fe := fun m i _ hf hp _ _ _ => by
    have := fence_pos L hf
    have h0 : (st0.th (thrOf L m)).pc = 0 := rfl
    omega
  hi := fun a j b h => by simp at h

/-- an earlier write of the thread has left the buffer, if a later one has -/
theorem FInv.fifo {L : List Nat} {s : St} {tr : List Nat} {q : Nat → List Nat} (h : FInv L s tr q) {i w : Nat} (hw : w ∈ tr) (hkw : kd L w = true) (hiw : i < w) (ht : thrOf L i = thrOf L w) : i ∈ tr := by
  obtain ⟨a, b, hab⟩ := List.append_of_mem hw
  have := (h.hi a w b hab).1 i ((byCode_iff L i w).2 ⟨hiw, ht, Or.inr (Or.inl hkw)⟩)
  rw [hab]
  simp [this]

/-- what thread k loads for read j -/
theorem FInv.load {L : List Nat} {s : St} {tr : List Nat} {q : Nat → List Nat} (h : FInv L s tr q) {j k : Nat} (hj : j < L.length) (ht : thrOf L j = k) (hp : posn L j = (s.th k).pc) :
    loadS s.mem s.th k (cellOf L j) = rdV L j tr := by
  have hql : ∀ i, i ∈ q k → i < j := fun i hi => by
    have := (h.qm k i).1 hi
    exact posn_le_iff L (this.2.1.trans ht.symm) (by omega)
  have hkq : ∀ i, i ∈ q k → kd L i = true := fun i hi => ((h.qm k i).1 hi).2.2.1
  have hmem : ∀ m, m < (q k).length → (q k)[m]?.getD 0 ∈ q k := fun m hm => by
    rw [List.getElem?_eq_getElem hm]; exact List.getElem_mem _
  have hlen : (s.th k).buf.length = (q k).length := by rw [h.bf k, List.length_map]
  have hno : (∀ i, i ∈ q k → cellOf L i ≠ cellOf L j) → loadS s.mem s.th k (cellOf L j) = lastV L (cellOf L j) tr := by
    intro hall
    unfold loadS
    rw [hlen, h.bf k]
    rcases ldTo_map L (q k) hkq (cellOf L j) (q k).length (Nat.le_refl _) with ⟨h1, _⟩ | ⟨m, h1, h2, _⟩
    · rw [h1]; exact h.me _
    · exact absurd h2 (hall _ (hmem m h1))
  unfold rdV
  cases ho : ownW L j with
  | none =>
    dsimp only
    refine hno (fun i hi hc => ?_)
    have h1 := (h.qm k i).1 hi
    exact ownTo_none L j j (Nat.le_refl _) ho i (hql i hi) (h1.2.1.trans ht.symm) ⟨hc, h1.2.2.1⟩
  | some w =>
    dsimp only
    obtain ⟨h1, h2, h3, h4, h5⟩ := ownTo_some L j j w ho
    by_cases hw : w ∈ tr
    · rw [if_pos hw]
      refine hno (fun i hi hc => ?_)
      have h6 := (h.qm k i).1 hi
      have h7 := hql i hi
      rcases Nat.lt_trichotomy i w with h8 | h8 | h8
      · exact h6.2.2.2.2 (h.fifo hw h4 h8 (h6.2.1.trans (ht.symm.trans h2.symm)))
      · rw [h8] at h6; exact h6.2.2.2.2 hw
      · exact (h5 i h8 h7).2 ⟨hc, h6.2.2.1⟩
    · rw [if_neg hw]
      have hwq : w ∈ q k := (h.qm k w).2 ⟨by omega, h2.trans ht, h4, by have := posn_lt L h1 h2; omega, hw⟩
      unfold loadS
      rw [hlen, h.bf k]
      obtain ⟨p, hp1, hp2⟩ := List.getElem_of_mem hwq
      have hp3 : (q k)[p]?.getD 0 = w := by rw [List.getElem?_eq_getElem hp1]; exact hp2
      rcases ldTo_map L (q k) hkq (cellOf L j) (q k).length (Nat.le_refl _) with ⟨_, g2⟩ | ⟨m, g1, g2, g3, g4⟩
      · exact absurd (by rw [hp3]; exact h3) (g2 p hp1)
      · rw [g3]
        show vaOf L _ = _
        have g5 := (h.qm k _).1 (hmem m g1)
        have g6 := hql _ (hmem m g1)
        have hle : ¬ (w < (q k)[m]?.getD 0) := fun hlt => (h5 _ hlt g6).2 ⟨g2, g5.2.2.1⟩
        have hmp : m = p := by
          rcases Nat.lt_trichotomy m p with g7 | g7 | g7
          · exact absurd (by rw [hp3]; exact h3) (g4 p g7 hp1)
          · exact g7
          · exfalso
            have := List.pairwise_iff_getElem.1 (h.qs k) p m hp1 g1 g7
            rw [hp2] at this
            rw [List.getElem?_eq_getElem g1] at hle
            exact hle this
        rw [hmp, hp3]

theorem FInv.drain {L : List Nat} {s : St} {tr : List Nat} {q : Nat → List Nat} (h : FInv L s tr q) {k : Nat} (hb : (s.th k).buf.isEmpty = false) : ∃ e q', e ∈ q k ∧ (∀ i, i ∈ q k → e ≤ i) ∧ FInv L (drainS k s) (e :: tr) q' := by
  obtain ⟨x, l, hl⟩ : ∃ x l, (s.th k).buf = x :: l := by
    cases hx : (s.th k).buf with
    | nil => simp [hx] at hb
    | cons x l => exact ⟨x, l, rfl⟩
  have hq := h.bf k
  rw [hl] at hq
  obtain ⟨e, q', hqe⟩ : ∃ e q', q k = e :: q' := by
    cases hx : q k with
    | nil => rw [hx] at hq; cases hq
    | cons e q' => exact ⟨e, q', rfl⟩
  rw [hqe, List.map_cons] at hq
  obtain ⟨hxe, hlq⟩ := List.cons.inj hq
  have hem := (h.qm k e).1 (by rw [hqe]; exact List.mem_cons_self)
  have hd : drainS k s = ⟨updN s.mem (cellOf L e) (vaOf L e), updN s.th k { s.th k with buf := l }⟩ := by
    unfold drainS
    rw [hl]
    dsimp only
    rw [hxe]
    unfold insE
    rw [hem.2.2.1, if_pos rfl]
  have hpc : ∀ j, ((drainS k s).th j).pc = (s.th j).pc := by
    intro j; rw [hd]; dsimp only
    by_cases hj : j = k
    · subst hj; rw [updN_same]
    · rw [updN_other _ _ hj]
  have hrg : ∀ j, ((drainS k s).th j).regs = (s.th j).regs := by
    intro j; rw [hd]; dsimp only
    by_cases hj : j = k
    · subst hj; rw [updN_same]
    · rw [updN_other _ _ hj]
  have hsort := h.qs k
  rw [hqe] at hsort
  have hsort := List.pairwise_cons.1 hsort
  have hmin : ∀ i, i ∈ q k → e ≤ i := by
    intro i hi
    rw [hqe] at hi
    rcases List.mem_cons.1 hi with h1 | h1
    · omega
    · exact Nat.le_of_lt (hsort.1 i h1)
  refine ⟨e, updN q k q', by rw [hqe]; exact List.mem_cons_self, hmin, List.nodup_cons.2 ⟨hem.2.2.2.2, h.nd⟩, fun i hi => ?_, fun i hi hk hp => ?_, fun j => ?_, fun j i => ?_, fun j => ?_, fun j => ?_, fun c => ?_, fun m i hm hf hp hi ht hk => ?_, fun a j b hab => ?_⟩
  · rw [hpc]
    rcases List.mem_cons.1 hi with h1 | h1
    · rw [h1, hem.2.1]; exact ⟨hem.1, hem.2.2.2.1⟩
    · exact h.lt i h1
  · rw [hpc] at hp
    exact List.mem_cons_of_mem _ (h.rd i hi hk hp)
  · rw [hd]; dsimp only
    by_cases hj : j = k
    · subst hj; rw [updN_same, updN_same]; exact hlq
    · rw [updN_other _ _ hj, updN_other _ _ hj]; exact h.bf j
  · rw [hpc]
    by_cases hj : j = k
    · subst hj
      rw [updN_same]
      constructor
      · intro hi
        have h1 := (h.qm j i).1 (by rw [hqe]; exact List.mem_cons_of_mem _ hi)
        refine ⟨h1.1, h1.2.1, h1.2.2.1, h1.2.2.2.1, fun hm => ?_⟩
        rcases List.mem_cons.1 hm with h2 | h2
        · have := hsort.1 i hi; omega
        · exact h1.2.2.2.2 h2
      · rintro ⟨h1, h2, h3, h4, h5⟩
        have h6 := (h.qm j i).2 ⟨h1, h2, h3, h4, fun hm => h5 (List.mem_cons_of_mem _ hm)⟩
        rw [hqe] at h6
        rcases List.mem_cons.1 h6 with h7 | h7
        · exact absurd (by rw [h7]; exact List.mem_cons_self) h5
        · exact h7
    · rw [updN_other _ _ hj, h.qm j i]
      constructor
      · rintro ⟨h1, h2, h3, h4, h5⟩
        refine ⟨h1, h2, h3, h4, fun hm => ?_⟩
        rcases List.mem_cons.1 hm with h6 | h6
        · rw [h6, hem.2.1] at h2; exact hj h2.symm
        · exact h5 h6
      · rintro ⟨h1, h2, h3, h4, h5⟩
        exact ⟨h1, h2, h3, h4, fun hm => h5 (List.mem_cons_of_mem _ hm)⟩
  · by_cases hj : j = k
    · subst hj; rw [updN_same]; exact hsort.2
    · rw [updN_other _ _ hj]; exact h.qs j
  · rw [hrg]; exact h.rl j
  · rw [hd]; dsimp only
    unfold lastV
    rw [lastW]
    by_cases hc : cellOf L e = c
    · rw [if_pos ⟨hem.2.2.1, hc⟩, ← hc, updN_same]
    · rw [if_neg (fun e' => hc e'.2), updN_other _ _ (fun e' => hc e'.symm)]
      exact h.me c
  · rw [hpc] at hp
    exact List.mem_cons_of_mem _ (h.fe m i hm hf hp hi ht hk)
  · rw [hrg]
    cases a with
    | nil =>
      simp only [List.nil_append, List.cons.injEq] at hab
      obtain ⟨rfl, rfl⟩ := hab
      refine ⟨fun i hi => ?_, fun hk => by rw [hem.2.2.1] at hk; cases hk⟩
      obtain ⟨h1, h2, _⟩ := (byCode_iff L i e).1 hi
      have hpi := posn_lt L h1 h2
      have hek := hem.2.1
      cases hki : kd L i
      · exact h.rd i (by omega) hki (by rw [h2, hek]; omega)
      · apply Classical.byContradiction
        intro hno
        have h6 := (h.qm k i).2 ⟨by omega, h2.trans hek, hki, by omega, hno⟩
        rw [hqe] at h6
        rcases List.mem_cons.1 h6 with h7 | h7
        · omega
        · have := hsort.1 i h7; omega
    | cons x a =>
      simp only [List.cons_append, List.cons.injEq] at hab
      exact h.hi a j b hab.2

theorem FInv.step {L : List Nat} (h16 : L.length ≤ 16) {s : St} {tr : List Nat} {q : Nat → List Nat} (h : FInv L s tr q) {k : Nat} (hk : k < L.countP lT) (hcan : canS (codeOf L) s.th k = true) :
    ∃ tr' q', (∀ e, e < L.length → thrOf L e = k → posn L e = (s.th k).pc → kd L e = false → tr' = e :: tr) ∧ ((∀ e, e < L.length → thrOf L e = k → posn L e = (s.th k).pc → kd L e = true) → tr' = tr) ∧ FInv L (stepS (codeOf L) 1 k s) tr' q' := by
  have hpc0 := canS_pc hcan
  rw [codeOf_at L hk] at hpc0
  have hx : insOf (codeOf L) k (s.th k).pc = (cdTo L k L.length)[(s.th k).pc]?.getD rins0 := by unfold insOf; rw [codeOf_at L hk]
  have hth : ∀ j, j ≠ k → (stepS (codeOf L) 1 k s).th j = s.th j := fun j hj => updN_other _ _ hj
  have hthk : (stepS (codeOf L) 1 k s).th k = stpT (insOf (codeOf L) k (s.th k).pc) 1 s.mem s.th k := updN_same _ _ _
  have hmem : (stepS (codeOf L) 1 k s).mem = s.mem := by show stpM _ 1 s.mem = s.mem; unfold stpM; rw [if_neg (by omega)]
  rw [hx] at hthk
  have hpck : ((stepS (codeOf L) 1 k s).th k).pc = (s.th k).pc + 1 := by rw [hthk]; rfl
  have hpcm : ∀ j, (s.th j).pc ≤ ((stepS (codeOf L) 1 k s).th j).pc := by
    intro j
    by_cases hj : j = k
    · subst hj; omega
    · rw [hth j hj]; exact Nat.le_refl _
  have hrl : ∀ j, ((stepS (codeOf L) 1 k s).th j).regs.length = 16 := by
    intro j
    by_cases hj : j = k
    · subst hj; rw [hthk]; unfold stpT; dsimp only; split
      · simp; exact h.rl j
      · exact h.rl j
    · rw [hth j hj]; exact h.rl j
  have hcode := code_at L k L.length (s.th k).pc hpc0
  have hcan2 : (insOf (codeOf L) k (s.th k).pc).op = 3 → (s.th k).buf = [] := by
    intro h3
    unfold canS at hcan
    rw [h3, Bool.and_eq_true] at hcan
    simpa using hcan.2
  rw [hx] at hcan2
  generalize (stepS (codeOf L) 1 k s) = s' at *
  generalize (cdTo L k L.length)[(s.th k).pc]?.getD rins0 = ins at *
  rcases hcode with ⟨hf, hno⟩ | ⟨e, he, hte, hpe, hins⟩
  · -- a fence
    subst hf
    have hq0 : q k = [] := by
      have h1 := h.bf k
      rw [hcan2 rfl] at h1
      cases hx : q k with
      | nil => rfl
      | cons a b => rw [hx] at h1; cases h1
    have hbf : ∀ j, (s'.th j).buf = (s.th j).buf := by
      intro j
      by_cases hj : j = k
      · subst hj; rw [hthk]; rfl
      · rw [hth j hj]
    have hrg : ∀ j, (s'.th j).regs = (s.th j).regs := by
      intro j
      by_cases hj : j = k
      · subst hj; rw [hthk]; rfl
      · rw [hth j hj]
    have hlt : ∀ i, i < L.length → posn L i < (s'.th (thrOf L i)).pc → posn L i < (s.th (thrOf L i)).pc := by
      intro i hi hp
      by_cases hj : thrOf L i = k
      · rw [hj, hpck] at hp
        rw [hj]
        have := hno i hi hj
        omega
      · rw [hth _ hj] at hp; exact hp
    refine ⟨tr, q, fun e he ht hp _ => absurd hp (hno e he ht), fun _ => rfl, h.nd, fun i hi => ⟨(h.lt i hi).1, Nat.lt_of_lt_of_le (h.lt i hi).2 (hpcm _)⟩, fun i hi hk' hp => h.rd i hi hk' (hlt i hi hp), fun j => by rw [hbf]; exact h.bf j, fun j i => ?_, h.qs, hrl, fun c => by rw [hmem]; exact h.me c, fun m i hm hf hp hi ht hki => ?_, fun a j b hab => ⟨(h.hi a j b hab).1, fun hkj => by rw [hrg]; exact (h.hi a j b hab).2 hkj⟩⟩
    · rw [h.qm j i]
      constructor
      · rintro ⟨h1, h2, h3, h4, h5⟩; exact ⟨h1, h2, h3, Nat.lt_of_lt_of_le h4 (hpcm _), h5⟩
      · rintro ⟨h1, h2, h3, h4, h5⟩
        refine ⟨h1, h2, h3, ?_, h5⟩
        rw [← h2] at h4 ⊢
        exact hlt i h1 h4
    · by_cases hj : thrOf L m = k
      · by_cases hp2 : posn L m ≤ (s.th k).pc
        · exact h.fe m i hm hf (by rw [hj]; exact hp2) hi ht hki
        · rw [hj, hpck] at hp
          have h1 := posn_lt L hi ht
          have h2 := hno i (by omega) (ht.trans hj)
          apply Classical.byContradiction
          intro hni
          have := (h.qm k i).2 ⟨by omega, ht.trans hj, hki, by omega, hni⟩
          rw [hq0] at this
          cases this
      · rw [hth _ hj] at hp
        exact h.fe m i hm hf hp hi ht hki
  · have hlt : ∀ i, i < L.length → posn L i < (s'.th (thrOf L i)).pc → posn L i < (s.th (thrOf L i)).pc ∨ i = e := by
      intro i hi hp
      by_cases hj : thrOf L i = k
      · rw [hj, hpck] at hp
        rw [hj]
        by_cases hq : posn L i = posn L e
        · exact Or.inr (posn_inj L (hj.trans hte.symm) hq)
        · exact Or.inl (by omega)
      · rw [hth _ hj] at hp; exact Or.inl hp
    have hfe : ∀ m i, m < L.length → fE (L[prv L m]?.getD 0) = true → posn L m ≤ (s'.th (thrOf L m)).pc → i < m → thrOf L i = thrOf L m → kd L i = true → i ∈ tr := by
      intro m i hm hf hp hi ht hki
      by_cases hj : thrOf L m = k
      · have := fence_gap L (m := m) (e := e) hf (hte.trans hj.symm)
        rw [hj, hpck] at hp
        exact h.fe m i hm hf (by rw [hj]; omega) hi ht hki
      · rw [hth _ hj] at hp
        exact h.fe m i hm hf hp hi ht hki
    have hnot : e ∉ tr := by
      intro hm
      have := (h.lt e hm).2
      rw [hte] at this
      omega
    have hpe' : posn L e < (s'.th (thrOf L e)).pc := by rw [hte, hpck]; omega
    subst hins
    cases hke : kd L e
    · -- a read
      have hie : insE L e = ⟨2, regOf L e, cellOf L e, 0⟩ := by simp [insE, hke]
      rw [hie] at hthk
      have hbf : ∀ j, (s'.th j).buf = (s.th j).buf := by
        intro j
        by_cases hj : j = k
        · subst hj; rw [hthk]; rfl
        · rw [hth j hj]
      refine ⟨e :: tr, q, fun e' _ ht' hp' _ => by rw [posn_inj L (ht'.trans hte.symm) (hp'.trans hpe.symm)], fun hB => absurd (hB e he hte hpe) (by rw [hke]; simp), List.nodup_cons.2 ⟨hnot, h.nd⟩, fun i hi => ?_, fun i hi hk' hp => ?_, fun j => by rw [hbf]; exact h.bf j, fun j i => ?_, h.qs, hrl, fun c => ?_, fun m i hm hf hp hi ht hki => List.mem_cons_of_mem _ (hfe m i hm hf hp hi ht hki), fun a j b hab => ?_⟩
      · rcases List.mem_cons.1 hi with h1 | h1
        · rw [h1]; exact ⟨he, hpe'⟩
        · exact ⟨(h.lt i h1).1, Nat.lt_of_lt_of_le (h.lt i h1).2 (hpcm _)⟩
      · rcases hlt i hi hp with h1 | h1
        · exact List.mem_cons_of_mem _ (h.rd i hi hk' h1)
        · rw [h1]; exact List.mem_cons_self
      · rw [h.qm j i]
        constructor
        · rintro ⟨h1, h2, h3, h4, h5⟩
          refine ⟨h1, h2, h3, Nat.lt_of_lt_of_le h4 (hpcm _), fun hm => ?_⟩
          rcases List.mem_cons.1 hm with h6 | h6
          · rw [h6, hke] at h3; cases h3
          · exact h5 h6
        · rintro ⟨h1, h2, h3, h4, h5⟩
          refine ⟨h1, h2, h3, ?_, fun hm => h5 (List.mem_cons_of_mem _ hm)⟩
          rw [← h2] at h4 ⊢
          rcases hlt i h1 h4 with h6 | h6
          · exact h6
          · rw [h6, hke] at h3; cases h3
      · rw [hmem, h.me c]
        unfold lastV
        rw [lastW, if_neg (by simp [hke])]
      · cases a with
        | nil =>
          simp only [List.nil_append, List.cons.injEq] at hab
          obtain ⟨rfl, rfl⟩ := hab
          refine ⟨fun i hi => ?_, fun _ => ?_⟩
          · obtain ⟨h1, h2, h3⟩ := (byCode_iff L i e).1 hi
            have hpi := posn_lt L h1 h2
            cases hki : kd L i
            · exact h.rd i (by omega) hki (by rw [h2, hte]; omega)
            · rcases h3 with h3 | h3 | ⟨m, h4, h5, h6⟩
              · rw [h3] at hki; cases hki
              · rw [h3] at hke; cases hke
              · have t1 := thr_mono L (show i ≤ m by omega)
                have t2 := thr_mono L h5
                have t3 : thrOf L m = thrOf L e := by omega
                have hpm : posn L m ≤ posn L e := by
                  rcases Nat.lt_or_eq_of_le h5 with h7 | h7
                  · exact Nat.le_of_lt (posn_lt L h7 t3)
                  · rw [h7]; exact Nat.le_refl _
                exact h.fe m i (by omega) h6 (by rw [t3, hte]; omega) h4 (by omega) hki
          · rw [hte, hthk]
            unfold stpT
            have hr : regOf L e < (s.th k).regs.length := by have := reg_le L e; rw [h.rl k]; omega
            simp [hr]
            exact h.load he hte hpe
        | cons x a =>
          simp only [List.cons_append, List.cons.injEq] at hab
          obtain ⟨rfl, hab⟩ := hab
          have hold := h.hi a j b hab
          refine ⟨hold.1, fun hkj => ?_⟩
          rw [← hold.2 hkj]
          by_cases hj : thrOf L j = k
          · rw [hj, hthk]
            unfold stpT
            dsimp only
            rw [if_pos rfl]
            have hjt : j ∈ tr := by rw [hab]; simp
            have hje : j < e := by
              have h1 := (h.lt j hjt).2
              rw [hj] at h1
              exact posn_le_iff L (hj.trans hte.symm) (by omega)
            have hrr := reg_lt L hje (hj.trans hte.symm) hkj
            rw [List.getElem?_set_ne (by omega)]
          · rw [hth _ hj]
    · -- a write
      have hie : insE L e = ⟨1, 0, cellOf L e, vaOf L e⟩ := by simp [insE, hke]
      rw [hie] at hthk
      have hrg : ∀ j, (s'.th j).regs = (s.th j).regs := by
        intro j
        by_cases hj : j = k
        · subst hj; rw [hthk]; rfl
        · rw [hth j hj]
      refine ⟨tr, updN q k (q k ++ [e]), fun e' _ ht' hp' hk' => absurd hk' (by rw [posn_inj L (ht'.trans hte.symm) (hp'.trans hpe.symm), hke]; simp), fun _ => rfl, h.nd, fun i hi => ⟨(h.lt i hi).1, Nat.lt_of_lt_of_le (h.lt i hi).2 (hpcm _)⟩, fun i hi hk' hp => ?_, fun j => ?_, fun j i => ?_, fun j => ?_, hrl, fun c => by rw [hmem]; exact h.me c, hfe, fun a j b hab => ⟨(h.hi a j b hab).1, fun hkj => by rw [hrg]; exact (h.hi a j b hab).2 hkj⟩⟩
      · rcases hlt i hi hp with h1 | h1
        · exact h.rd i hi hk' h1
        · rw [h1, hke] at hk'; cases hk'
      · by_cases hj : j = k
        · subst hj
          rw [updN_same, hthk, List.map_append, ← h.bf j]
          unfold stpT
          dsimp only
          rw [if_pos ⟨rfl, rfl⟩, List.map_singleton, hie]
        · rw [updN_other _ _ hj, hth j hj]; exact h.bf j
      · by_cases hj : j = k
        · subst hj
          rw [updN_same, List.mem_append, List.mem_singleton, h.qm j i]
          constructor
          · rintro (⟨h1, h2, h3, h4, h5⟩ | h6)
            · exact ⟨h1, h2, h3, Nat.lt_of_lt_of_le h4 (hpcm _), h5⟩
            · rw [h6]; exact ⟨he, hte, hke, by rw [hpck]; omega, hnot⟩
          · rintro ⟨h1, h2, h3, h4, h5⟩
            rw [← h2] at h4
            rcases hlt i h1 h4 with h6 | h6
            · exact Or.inl ⟨h1, h2, h3, by rw [← h2]; exact h6, h5⟩
            · exact Or.inr h6
        · rw [updN_other _ _ hj, h.qm j i, hth j hj]
      · by_cases hj : j = k
        · subst hj
          rw [updN_same, List.pairwise_append]
          refine ⟨h.qs j, by simp, fun i hi b hb => ?_⟩
          rw [List.mem_singleton] at hb
          rw [hb]
          have h1 := (h.qm j i).1 hi
          exact posn_le_iff L (h1.2.1.trans hte.symm) (by omega)
        · rw [updN_other _ _ hj]; exact h.qs j

theorem FInv.play (L : List Nat) (h16 : L.length ≤ 16) (l : List Int) : ∃ tr q, FInv L (playS (codeOf L) 1 l) tr q := by
  refine play_keeps (codeOf L) 1 (fun s => ∃ tr q, FInv L s tr q) ⟨[], _, FInv.init L⟩ ?_ l
  rintro s ⟨k, b⟩ ⟨tr, q, h⟩ hm
  obtain ⟨hk, h2⟩ := (mem_mvs _ _ _).1 hm
  rw [codeOf_length] at hk
  dsimp only at hk h2
  rcases h2 with ⟨rfl, hc⟩ | ⟨rfl, hb⟩
  · obtain ⟨tr', q', _, _, h'⟩ := h.step h16 hk hc
    exact ⟨tr', q', h'⟩
  · obtain ⟨e, q', _, _, h'⟩ := h.drain hb
    exact ⟨e :: tr, q', h'⟩

/-- where a play with buffers meets all claims, there is an order -/
theorem forbids_core (L : List Nat) (hR : Ring L) (h16 : L.length ≤ 16) (hlT : lT (L[L.length - 1]?.getD 0) = true) (hC16 : L.countP lC ≤ 16) (hS : SndC (codeOf L)) (l : List Int)
    (hmet : metS (L.countP lT) (wantOf L) (endS (L.countP lT) (playS (codeOf L) 1 l)) = true) : shown L = true := by
  have hL := hR.toLay
  obtain ⟨tr, q, hI⟩ := FInv.play L h16 l
  obtain ⟨hreads, hcells⟩ := (met_iff L _ _).1 hmet
  have hthr : ∀ i, i < L.length → thrOf L i < L.countP lT := fun i hi => thr_lt L hL.pos hlT hi
  have hall : ∀ i, i < L.length → i ∈ tr := by
    intro i hi
    have ht := hthr i hi
    have hpe := play_end (codeOf L) hS 1 (Or.inr rfl) l (thrOf L i) (by rw [codeOf_length]; exact ht)
    rw [codeOf_at L ht] at hpe
    have hp := posn_in L hi
    cases hk : kd L i
    · exact hI.rd i hi hk (by omega)
    · apply Classical.byContradiction
      intro hno
      have h1 := (hI.qm (thrOf L i) i).2 ⟨hi, rfl, hk, by omega, hno⟩
      have h2 := hI.bf (thrOf L i)
      rw [hpe.1] at h2
      have h3 : q (thrOf L i) = [] := by
        cases hx : q (thrOf L i) with
        | nil => rfl
        | cons a b => rw [hx] at h2; cases h2
      rw [h3] at h1
      cases h1
  have hread : ∀ i, i < L.length → clm L i = true → ∃ a b, tr = a ++ i :: b ∧ rdV L i b = vaOf L i ∧ kd L i = false := by
    intro i hi hc
    rw [clm_eq L hR i hi, Bool.and_eq_true] at hc
    have hk : kd L i = false := by simpa using hc.1
    have hl : lone L i = false := by simpa using hc.2
    obtain ⟨a, b, hab⟩ := List.append_of_mem (hall i hi)
    have h1 := (hI.hi a i b hab).2 hk
    have h2 := hreads i hi hk hl
    rw [endS_reg _ _ (hthr i hi) (by have := reg_le L i; omega), h1] at h2
    exact ⟨a, b, hab, h2, hk⟩
  have hcell : ∀ c, c < L.countP lC → wrs L c = 2 → lastV L c tr = 2 := by
    intro c hc hw
    have := hcells c hc hw
    rw [endS_mem _ _ (by omega), hI.me c] at this
    exact this
  have hsecond : ∀ i j, i < L.length → j < L.length → kd L i = true → kd L j = true → cellOf L i = cellOf L j → vaOf L i < vaOf L j → rnk i tr < rnk j tr := by
    intro i j hi hj hki hkj hc hv
    have hle := va_le L hL hj
    have hfew := hR.few (cellOf L j)
    have hpos := va_pos L hL hi hki
    have h2 := hcell (cellOf L j) (cell_lt L hL j) (by omega)
    unfold lastV at h2
    cases hw : lastW L (cellOf L j) tr with
    | none => rw [hw] at h2; cases h2
    | some k =>
      rw [hw] at h2
      dsimp only at h2
      obtain ⟨h3, h4, h5, h6⟩ := lastW_some hw
      have hkl := (hI.lt k h3).1
      have := va_inj L hL hkl hj h4 hkj h5 (by omega)
      subst this
      have h7 := h6 i (hall i hi) hki hc
      rcases Nat.lt_or_eq_of_le h7 with h8 | h8
      · exact h8
      · have := rnk_inj hI.nd (hall i hi) (hall _ hj) h8
        rw [this] at hv
        omega
  have hback : ∀ a i b, tr = a ++ i :: b → ∀ x, x < L.length → x ∉ b → rnk i tr ≤ rnk x tr := by
    intro a i b hab x hx hxb
    have hm := hall x hx
    rw [hab] at hm
    rcases List.mem_append.1 hm with h1 | h1
    · obtain ⟨a1, a2, ha⟩ := List.append_of_mem h1
      exact Nat.le_of_lt (rnk_lt (tr := tr) (a := a1) (b := a2 ++ i :: b) (j := x) (i := i) (by rw [hab, ha]; simp) hI.nd (by simp))
    · rcases List.mem_cons.1 h1 with h2 | h2
      · rw [h2]; exact Nat.le_refl _
      · exact absurd h2 hxb
  -- the youngest write of a cell among b is the youngest of them all in b
  have hyoung : ∀ a i b, tr = a ++ i :: b → ∀ c k, lastW L c b = some k → k ∈ b ∧ kd L k = true ∧ cellOf L k = c ∧ ∀ x, x ∈ b → kd L x = true → cellOf L x = c → rnk x tr ≤ rnk k tr := by
    intro a i b hab c k hw
    obtain ⟨h3, h4, h5, h6⟩ := lastW_some hw
    refine ⟨h3, h4, h5, fun x hx hkx hcx => ?_⟩
    have h8 := h6 x hx hkx hcx
    have hnd2 := hI.nd
    rw [hab, List.nodup_append] at hnd2
    have hoff : ∀ x, x ∈ b → x ∉ a ++ [i] := by
      intro x hx h
      rcases List.mem_append.1 h with h | h
      · exact hnd2.2.2 x h x (List.mem_cons_of_mem _ hx) rfl
      · rw [List.mem_singleton] at h
        subst h
        exact (List.nodup_cons.1 hnd2.2.1).1 hx
    have e1 : tr = (a ++ [i]) ++ b := by rw [hab]; simp
    rw [e1, rnk_in (hoff k h3), rnk_in (hoff x hx)]
    exact h8
  refine shown_of_rank (fun i => rnk i tr) (fun f s hf hs hh => ?_)
  unfold hap at hh
  rw [Bool.or_eq_true] at hh
  rcases hh with hh | hh
  · obtain ⟨a, b, hab⟩ := List.append_of_mem (hall s hs)
    exact rnk_lt hab hI.nd ((hI.hi a s b hab).1 f hh)
  · unfold byVal at hh
    rw [Bool.and_eq_true, beq_iff_eq, vB_eq L hL f hf, vB_eq L hL s hs] at hh
    obtain ⟨hc, hh⟩ := hh
    cases hks : kd L s
    · rw [hks, if_neg (by simp)] at hh
      by_cases hz : (!kd L f || !clm L s) = true
      · rw [if_pos hz] at hh; cases hh
      · rw [if_neg hz] at hh
        rw [Bool.or_eq_true, not_or] at hz
        have hkf : kd L f = true := by simpa using hz.1
        have hcs : clm L s = true := by simpa using hz.2
        obtain ⟨a, b, hab, hv, _⟩ := hread s hs hcs
        have hpos := va_pos L hL hf hkf
        apply rnk_lt hab hI.nd
        apply Classical.byContradiction
        intro hfb
        unfold rdV at hv
        have hlast : vaOf L f = vaOf L s → lastV L (cellOf L s) b = vaOf L s → False := by
          intro e1 e2
          unfold lastV at e2
          cases hw : lastW L (cellOf L s) b with
          | none => rw [hw] at e2; dsimp only at e2; omega
          | some k =>
            rw [hw] at e2
            dsimp only at e2
            obtain ⟨h3, h4, h5, _⟩ := lastW_some hw
            have hkt : k ∈ tr := by rw [hab]; simp [h3]
            have := va_inj L hL (hI.lt k hkt).1 hf h4 hkf (h5.trans hc.symm) (e2.trans e1.symm)
            rw [this] at h3
            exact hfb h3
        by_cases how : ownW L s = some f
        · rw [if_pos how] at hh
          rw [how] at hv
          dsimp only at hv
          rw [if_neg hfb] at hv
          rw [hv] at hh
          simp at hh
        · rw [if_neg how, beq_iff_eq] at hh
          cases ho : ownW L s with
          | none => rw [ho] at hv; exact hlast hh hv
          | some w =>
            rw [ho] at hv
            dsimp only at hv
            by_cases hw : w ∈ b
            · rw [if_pos hw] at hv; exact hlast hh hv
            · rw [if_neg hw] at hv
              obtain ⟨h1, h2, h3, h4, _⟩ := ownTo_some L s s w ho
              have := va_inj L hL (show w < L.length by omega) hf h4 hkf (h3.trans hc.symm) (hv.trans hh.symm)
              rw [this] at ho
              exact how ho
    · rw [hks, if_pos rfl, Bool.and_eq_true, decide_eq_true_iff, Bool.or_eq_true] at hh
      obtain ⟨hlt, hor⟩ := hh
      by_cases hkf : kd L f = true
      · exact hsecond f s hf hs hkf hks hc hlt
      · have hcf : clm L f = true := by
          rcases hor with h | h
          · exact absurd h hkf
          · exact h
        obtain ⟨a, b, hab, hv, hkf2⟩ := hread f hf hcf
        apply Nat.lt_of_not_le
        intro hge
        have hne : f ≠ s := fun e => by rw [e] at hlt; omega
        have hsb : s ∈ b := by
          apply Classical.byContradiction
          intro hno
          have := hback a f b hab s hs hno
          exact hne (rnk_inj hI.nd (hall f hf) (hall s hs) (by omega))
        have hsf := rnk_lt hab hI.nd hsb
        have hlast : lastV L (cellOf L f) b = vaOf L f → False := by
          intro e2
          unfold lastV at e2
          cases hw : lastW L (cellOf L f) b with
          | none => exact lastW_none hw s hsb hks hc.symm
          | some k =>
            rw [hw] at e2
            dsimp only at e2
            obtain ⟨h3, h4, h5, h6⟩ := hyoung a f b hab _ k hw
            have hkt : k ∈ tr := by rw [hab]; simp [h3]
            have h7 := h6 s hsb hks hc.symm
            have h8 := hsecond k s (hI.lt k hkt).1 hs h4 hks (h5.trans hc) (by omega)
            omega
        unfold rdV at hv
        cases ho : ownW L f with
        | none => rw [ho] at hv; exact hlast hv
        | some w =>
          rw [ho] at hv
          dsimp only at hv
          by_cases hw : w ∈ b
          · rw [if_pos hw] at hv; exact hlast hv
          · rw [if_neg hw] at hv
            obtain ⟨h1, h2, h3, h4, _⟩ := ownTo_some L f f w ho
            have h5 := hback a f b hab w (by omega) hw
            have h8 := hsecond w s (by omega) hs h4 hks (h3.trans hc) (by omega)
            omega

end Go.Proofs.YtokfiflflcfidabDoor

namespace Go.Proofs.YtokfiflflcfidabDoor
open Go.RowKit

/-- the machine with buffers behind some moves -/
def exe (code : List (List RIns)) (s : St) : List (Nat × Bool) → St
  | [] => s
  | m :: l => exe code (moveS code 1 s m) l
/-- each of the moves can be made in its turn -/
def Leg (code : List (List RIns)) (s : St) : List (Nat × Bool) → Prop
  | [] => True
  | m :: l => m ∈ mvs code s.th ∧ Leg code (moveS code 1 s m) l
theorem exe_append (code : List (List RIns)) (s : St) (a b : List (Nat × Bool)) : exe code s (a ++ b) = exe code (exe code s a) b := by
  induction a generalizing s with
  | nil => rfl
  | cons m a ih => exact ih _
theorem Leg_append (code : List (List RIns)) (s : St) (a b : List (Nat × Bool)) : Leg code s (a ++ b) ↔ Leg code s a ∧ Leg code (exe code s a) b := by
  induction a generalizing s with
  | nil => simp [Leg, exe]
  | cons m a ih =>
    simp only [List.cons_append, Leg, exe]
    rw [ih]
    exact and_assoc.symm

/-- the event behind a fence of the code -/
theorem code_at2 (L : List Nat) (t k p : Nat) (hp : p < (cdTo L t k).length) (hno : ∀ i, i < k → thrOf L i = t → posn L i ≠ p) : ∃ m, m < k ∧ thrOf L m = t ∧ posn L m = p + 1 ∧ fE (L[prv L m]?.getD 0) = true := by
  induction k with
  | zero => simp [cdTo] at hp
  | succ k ih =>
    by_cases ht : thrOf L k = t
    · have hcd : cdTo L t (k + 1) = cdTo L t k ++ em L k := by rw [cdTo, if_pos ht]
      have hpk := posn_eq L k
      rw [ht] at hpk
      have hel := em_len L k
      rw [hcd, List.length_append] at hp
      by_cases hlt : p < (cdTo L t k).length
      · obtain ⟨m, h1, h2⟩ := ih hlt (fun i hi hti => hno i (by omega) hti)
        exact ⟨m, by omega, h2⟩
      · have h1 := hno k (by omega) ht
        have h2 : (em L k).length = 2 := by omega
        refine ⟨k, by omega, ht, by omega, ?_⟩
        unfold em at h2
        cases hf : fE (L[prv L k]?.getD 0)
        · rw [hf] at h2; simp at h2
        · rfl
    · have hcd : cdTo L t (k + 1) = cdTo L t k := by rw [cdTo, if_neg ht, List.append_nil]
      rw [hcd] at hp
      obtain ⟨m, h1, h2⟩ := ih hp (fun i hi hti => hno i (by omega) hti)
      exact ⟨m, by omega, h2⟩

theorem step_pc (code : List (List RIns)) (s : St) (t j : Nat) : ((moveS code 1 s (t, false)).th j).pc = (s.th j).pc + if j = t then 1 else 0 := by
  show ((stepS code 1 t s).th j).pc = _
  unfold stepS
  dsimp only
  by_cases h : j = t
  · subst h; rw [updN_same, if_pos rfl]; rfl
  · rw [updN_other _ _ h, if_neg h]; rfl
theorem drain_pc (code : List (List RIns)) (s : St) (t j : Nat) : ((moveS code 1 s (t, true)).th j).pc = (s.th j).pc := by
  show ((drainS t s).th j).pc = _
  unfold drainS
  split
  · rfl
  · dsimp only
    by_cases h : j = t
    · subst h; rw [updN_same]
    · rw [updN_other _ _ h]

/-- a thread's buffer is empty ahead of a fence, if all its earlier writes have happened -/
theorem can_fence {L : List Nat} {s : St} {tr : List Nat} {q : Nat → List Nat} (h : FInv L s tr q) {t : Nat} (hpos : ∀ i, i < L.length → thrOf L i = t → kd L i = true → posn L i < (s.th t).pc → i ∈ tr) : (s.th t).buf = [] := by
  have hq : q t = [] := by
    cases hx : q t with
    | nil => rfl
    | cons e l =>
      have h1 := (h.qm t e).1 (by rw [hx]; exact List.mem_cons_self)
      exact absurd (hpos e h1.1 h1.2.1 h1.2.2.1 h1.2.2.2.1) h1.2.2.2.2
  rw [h.bf t, hq]
  rfl

/-- the instructions of thread t ahead of event a can be made, and nothing happens by them -/
theorem steps_ok (L : List Nat) (h16 : L.length ≤ 16) {a : Nat} (ha : a < L.length) (hat : thrOf L a < L.countP lT) {tr : List Nat}
    (hrd : ∀ e, e < a → thrOf L e = thrOf L a → kd L e = false → e ∈ tr) (hfen : ∀ m e, m ≤ a → thrOf L m = thrOf L a → fE (L[prv L m]?.getD 0) = true → e < m → thrOf L e = thrOf L a → kd L e = true → e ∈ tr) (j : Nat) :
    ∀ {s : St} {q : Nat → List Nat}, FInv L s tr q → (s.th (thrOf L a)).pc + j ≤ posn L a →
      Leg (codeOf L) s (List.replicate j (thrOf L a, false)) ∧ (∃ q', FInv L (exe (codeOf L) s (List.replicate j (thrOf L a, false))) tr q') ∧ ∀ k, ((exe (codeOf L) s (List.replicate j (thrOf L a, false))).th k).pc = (s.th k).pc + if k = thrOf L a then j else 0 := by
  induction j with
  | zero =>
    intro s q h _
    refine ⟨trivial, ⟨q, h⟩, fun k => ?_⟩
    show (s.th k).pc = _
    split <;> rfl
  | succ j ih =>
    intro s q h hp
    have hin := posn_in L ha
    have hpl : (s.th (thrOf L a)).pc < (cdTo L (thrOf L a) L.length).length := by omega
    have hlen : (s.th (thrOf L a)).pc < ((codeOf L)[thrOf L a]?.getD []).length := by rw [codeOf_at L hat]; exact hpl
    have hx : insOf (codeOf L) (thrOf L a) (s.th (thrOf L a)).pc = (cdTo L (thrOf L a) L.length)[(s.th (thrOf L a)).pc]?.getD rins0 := by unfold insOf; rw [codeOf_at L hat]
    have hev : ∀ e, e < L.length → thrOf L e = thrOf L a → posn L e = (s.th (thrOf L a)).pc → kd L e = true := by
      intro e he hte hpe
      cases hk : kd L e
      · have hea : e < a := posn_le_iff L hte (by omega)
        have h1 := (h.lt e (hrd e hea hte hk)).2
        rw [hte] at h1
        omega
      · rfl
    have hcan : canS (codeOf L) s.th (thrOf L a) = true := by
      unfold canS
      rw [Bool.and_eq_true]
      refine ⟨decide_eq_true hlen, ?_⟩
      rw [hx]
      rcases code_at L (thrOf L a) L.length _ hpl with ⟨hf, hno⟩ | ⟨e, he, hte, hpe, hins⟩
      · obtain ⟨m, hm1, hm2, hm3, hm4⟩ := code_at2 L _ _ _ hpl hno
        have hma : m ≤ a := by
          rcases Nat.lt_or_ge a m with h1 | h1
          · have := posn_lt L h1 hm2.symm; omega
          · exact h1
        have hbe := can_fence h (t := thrOf L a) (fun i hi hti hki hpi => by
          have him : i < m := posn_le_iff L (hti.trans hm2.symm) (by omega)
          exact hfen m i hma hm2 hm4 him hti hki)
        rw [hbe]
        simp
      · rw [hins]
        have hk := hev e he hte hpe
        unfold insE
        rw [hk]
        simp
    obtain ⟨tr', q', _, hB, h'⟩ := h.step h16 hat hcan
    have := hB hev
    subst this
    have hmv : (thrOf L a, false) ∈ mvs (codeOf L) s.th := (mem_mvs _ _ _).2 ⟨by rw [codeOf_length]; exact hat, Or.inl ⟨rfl, hcan⟩⟩
    have hpc := step_pc (codeOf L) s (thrOf L a)
    have h2 := ih (s := moveS (codeOf L) 1 s (thrOf L a, false)) h' (by rw [hpc, if_pos rfl]; omega)
    rw [List.replicate_succ]
    refine ⟨⟨hmv, h2.1⟩, h2.2.1, fun k => ?_⟩
    show ((exe (codeOf L) (moveS (codeOf L) 1 s (thrOf L a, false)) _).th k).pc = _
    rw [h2.2.2 k, hpc]
    split <;> omega

/-- the moves with which an event happens -/
theorem event_ok (L : List Nat) (h16 : L.length ≤ 16) {a : Nat} (ha : a < L.length) (hat : thrOf L a < L.countP lT) {tr : List Nat} (hna : a ∉ tr) (hcode : ∀ f, f < L.length → byCode L f a = true → f ∈ tr)
    {s : St} {q : Nat → List Nat} (h : FInv L s tr q) (l : List (Nat × Bool)) (hl : stA l (thrOf L a) = (s.th (thrOf L a)).pc) :
    Leg (codeOf L) s (mvE L l a) ∧ (∃ q', FInv L (exe (codeOf L) s (mvE L l a)) (a :: tr) q') ∧ ∀ k, ((exe (codeOf L) s (mvE L l a)).th k).pc = (s.th k).pc + stA (mvE L l a) k := by
  have hrd : ∀ e, e < a → thrOf L e = thrOf L a → kd L e = false → e ∈ tr := fun e h1 h2 h3 => hcode e (by omega) ((byCode_iff L e a).2 ⟨h1, h2, Or.inl h3⟩)
  have hfen : ∀ m e, m ≤ a → thrOf L m = thrOf L a → fE (L[prv L m]?.getD 0) = true → e < m → thrOf L e = thrOf L a → kd L e = true → e ∈ tr := fun m e h1 _ h3 h4 h5 _ => hcode e (by omega) ((byCode_iff L e a).2 ⟨by omega, h5, Or.inr (Or.inr ⟨m, h4, h1, h3⟩)⟩)
  have hin := posn_in L ha
  -- draining, where the buffer holds a
  have hdr : ∀ {s1 : St} {q1 : Nat → List Nat}, kd L a = true → FInv L s1 tr q1 → posn L a < (s1.th (thrOf L a)).pc → (thrOf L a, true) ∈ mvs (codeOf L) s1.th ∧ ∃ q', FInv L (moveS (codeOf L) 1 s1 (thrOf L a, true)) (a :: tr) q' := by
    intro s1 q1 hk h1 hp
    have hq : a ∈ q1 (thrOf L a) := (h1.qm _ a).2 ⟨ha, rfl, hk, hp, hna⟩
    have hbe : (s1.th (thrOf L a)).buf.isEmpty = false := by
      rw [h1.bf]
      cases hx : q1 (thrOf L a) with
      | nil => rw [hx] at hq; cases hq
      | cons e l => rfl
    refine ⟨(mem_mvs _ _ _).2 ⟨by rw [codeOf_length]; exact hat, Or.inr ⟨rfl, hbe⟩⟩, ?_⟩
    obtain ⟨e, q', he, hmin, h2⟩ := h1.drain hbe
    have hea := hmin a hq
    have hem := (h1.qm _ e).1 he
    have : e = a := by
      rcases Nat.lt_or_eq_of_le hea with h3 | h3
      · exact absurd (hcode e hem.1 ((byCode_iff L e a).2 ⟨h3, hem.2.1, Or.inr (Or.inl hk)⟩)) hem.2.2.2.2
      · exact h3
    subst this
    exact ⟨q', h2⟩
  by_cases hpa : (s.th (thrOf L a)).pc ≤ posn L a
  · -- up to a, and a itself
    obtain ⟨j, hj⟩ : ∃ j, posn L a = (s.th (thrOf L a)).pc + j := ⟨posn L a - (s.th (thrOf L a)).pc, by omega⟩
    obtain ⟨g1, ⟨q1, g2⟩, g3⟩ := steps_ok L h16 ha hat hrd hfen j h (by omega)
    have hrep : posn L a + 1 - stA l (thrOf L a) = j + 1 := by omega
    have hmv0 : mvE L l a = List.replicate j (thrOf L a, false) ++ ((thrOf L a, false) :: if kd L a then [(thrOf L a, true)] else []) := by
      unfold mvE
      rw [hrep, List.replicate_succ']
      simp
    generalize hs1 : exe (codeOf L) s (List.replicate j (thrOf L a, false)) = s1 at *
    have hpc1 : (s1.th (thrOf L a)).pc = posn L a := by rw [g3, if_pos rfl]; omega
    have hx : insOf (codeOf L) (thrOf L a) (s1.th (thrOf L a)).pc = insE L a := by
      unfold insOf
      rw [codeOf_at L hat, hpc1]
      rcases code_at L (thrOf L a) L.length (posn L a) hin with ⟨_, hno⟩ | ⟨e, he, hte, hpe, hins⟩
      · exact absurd rfl (hno a ha rfl)
      · rw [hins, posn_inj L hte hpe]
    have hcan : canS (codeOf L) s1.th (thrOf L a) = true := by
      unfold canS
      rw [Bool.and_eq_true]
      refine ⟨decide_eq_true (by rw [codeOf_at L hat, hpc1]; exact hin), ?_⟩
      rw [hx]
      unfold insE
      cases kd L a <;> simp
    have hmv : (thrOf L a, false) ∈ mvs (codeOf L) s1.th := (mem_mvs _ _ _).2 ⟨by rw [codeOf_length]; exact hat, Or.inl ⟨rfl, hcan⟩⟩
    obtain ⟨tr', q', hA, hB, h'⟩ := g2.step h16 hat hcan
    have hpc2 := step_pc (codeOf L) s1 (thrOf L a)
    cases hk : kd L a
    · have := hA a ha rfl hpc1.symm hk
      subst this
      rw [hk] at hmv0
      rw [hmv0, Leg_append, exe_append, hs1]
      refine ⟨⟨g1, hmv, trivial⟩, ⟨q', h'⟩, fun k => ?_⟩
      show ((moveS (codeOf L) 1 s1 (thrOf L a, false)).th k).pc = _
      rw [hpc2, g3, stA_append, stA_rep]
      have e1 : stA ((thrOf L a, false) :: if false = true then [(thrOf L a, true)] else []) k = if thrOf L a = k then 1 else 0 := by
        unfold stA
        by_cases h1 : thrOf L a = k <;> simp [h1]
      rw [e1]
      by_cases h1 : k = thrOf L a
      · rw [if_pos h1, if_pos h1, if_pos h1.symm, if_pos h1.symm]; omega
      · rw [if_neg h1, if_neg h1, if_neg (Ne.symm h1), if_neg (Ne.symm h1)]
    · have hev : ∀ e, e < L.length → thrOf L e = thrOf L a → posn L e = (s1.th (thrOf L a)).pc → kd L e = true := by
        intro e _ hte hpe
        rw [posn_inj L hte (hpe.trans hpc1)]
        exact hk
      have := hB hev
      subst this
      obtain ⟨d1, q2, d2⟩ := hdr (s1 := moveS (codeOf L) 1 s1 (thrOf L a, false)) hk h' (by rw [hpc2, if_pos rfl]; omega)
      rw [hk] at hmv0
      rw [hmv0, Leg_append, exe_append, hs1]
      refine ⟨⟨g1, hmv, d1, trivial⟩, ⟨q2, d2⟩, fun k => ?_⟩
      show ((moveS (codeOf L) 1 (moveS (codeOf L) 1 s1 (thrOf L a, false)) (thrOf L a, true)).th k).pc = _
      rw [drain_pc, hpc2, g3, stA_append, stA_rep]
      have e1 : stA ((thrOf L a, false) :: if true = true then [(thrOf L a, true)] else []) k = if thrOf L a = k then 1 else 0 := by
        unfold stA
        by_cases h1 : thrOf L a = k <;> simp [h1]
      rw [e1]
      by_cases h1 : k = thrOf L a
      · rw [if_pos h1, if_pos h1, if_pos h1.symm, if_pos h1.symm]; omega
      · rw [if_neg h1, if_neg h1, if_neg (Ne.symm h1), if_neg (Ne.symm h1)]
  · -- a waits in the buffer
    have hk : kd L a = true := by
      cases hk : kd L a
      · exact absurd (h.rd a ha hk (by omega)) hna
      · rfl
    have hmv0 : mvE L l a = [(thrOf L a, true)] := by
      unfold mvE
      rw [show posn L a + 1 - stA l (thrOf L a) = 0 from by omega, hk]
      rfl
    obtain ⟨d1, q2, d2⟩ := hdr hk h (by omega)
    rw [hmv0]
    refine ⟨⟨d1, trivial⟩, ⟨q2, d2⟩, fun k => ?_⟩
    show ((moveS (codeOf L) 1 s (thrOf L a, true)).th k).pc = _
    rw [drain_pc]
    have e1 : stA [(thrOf L a, true)] k = 0 := by unfold stA; simp
    omega

/-- the first n events of the order happen by their moves -/
theorem order_ok (L : List Nat) (hL : Lay L) (h16 : L.length ≤ 16) (hlT : lT (L[L.length - 1]?.getD 0) = true) (hs : shown L = true) (n : Nat) (hn : n ≤ L.length) :
    Leg (codeOf L) st0 (moTo L n) ∧ (∃ q, FInv L (exe (codeOf L) st0 (moTo L n)) (ordTo L n).reverse q) ∧ ∀ k, ((exe (codeOf L) st0 (moTo L n)).th k).pc = stA (moTo L n) k := by
  induction n with
  | zero => exact ⟨trivial, ⟨_, FInv.init L⟩, fun k => rfl⟩
  | succ n ih =>
    obtain ⟨h1, ⟨q, h2⟩, h3⟩ := ih (by omega)
    have ha := shown_at hs (show n < L.length by omega)
    obtain ⟨hx1, hx2⟩ := nx_spec L _ ha
    obtain ⟨g1, ⟨q', g2⟩, g3⟩ := event_ok L h16 ha (thr_lt L hL.pos hlT ha) (tr := (ordTo L n).reverse) (by rw [List.mem_reverse]; exact hx1) (fun f hf hb => by
      rw [List.mem_reverse]
      exact hx2 f hf (by unfold hap; rw [hb]; rfl)) h2 (moTo L n) (h3 _).symm
    rw [moTo, Leg_append, exe_append]
    refine ⟨⟨h1, g1⟩, ⟨q', ?_⟩, fun k => ?_⟩
    · rw [ordTo, List.reverse_append]
      exact g2
    · rw [g3, h3, stA_append]

end Go.Proofs.YtokfiflflcfidabDoor

namespace Go.Proofs.YtokfiflflcfidabDoor
open Go.RowKit

theorem ord_split (L : List Nat) {k n : Nat} (h : k < n) : ∃ rest, ordTo L n = ordTo L k ++ nx L (ordTo L k) :: rest := by
  induction n with
  | zero => omega
  | succ n ih =>
    by_cases hk : k = n
    · subst hk; exact ⟨[], rfl⟩
    · obtain ⟨rest, hr⟩ := ih (by omega)
      refine ⟨rest ++ [nx L (ordTo L n)], ?_⟩
      rw [ordTo, hr]
      simp
/-- what has to happen first happens first -/
theorem ord_rnk {L : List Nat} (hs : shown L = true) {n : Nat} (hn : n ≤ L.length) {y f : Nat} (hy : y < L.length) (hf : f ∈ ordTo L n) (h : hap L y f = true) : rnk y (ordTo L n).reverse < rnk f (ordTo L n).reverse := by
  obtain ⟨k, hk, rfl⟩ := (mem_ordTo L n f).1 hf
  obtain ⟨rest, hr⟩ := ord_split L hk
  have h1 := (nx_spec L _ (shown_at hs (show k < L.length by omega))).2 y hy h
  have hnd := (ord_nodup hs hn).1
  rw [hr] at hnd ⊢
  refine rnk_lt (a := rest.reverse) (b := (ordTo L k).reverse) (by simp) (List.pairwise_reverse.2 (List.Pairwise.imp (fun h => Ne.symm h) hnd)) (by rw [List.mem_reverse]; exact h1)

theorem va_write (L : List Nat) (hL : Lay L) {i : Nat} (hi : i < L.length) (h : 1 ≤ vaOf L i) : ∃ f, f < L.length ∧ kd L f = true ∧ cellOf L f = cellOf L i ∧ vaOf L f = vaOf L i := by
  obtain ⟨s, k, ho, hk, rfl⟩ := at_row L hL i hi
  have hs : s < L.length := ho.2.1
  have key : ∀ k, k ≤ runE L s → 1 ≤ vaOf L ((s + k) % L.length) → ∃ f, f < L.length ∧ kd L f = true ∧ cellOf L f = cellOf L s ∧ vaOf L f = vaOf L ((s + k) % L.length) := by
    intro k
    induction k with
    | zero =>
      intro hk h1
      have h2 := va_row L hL s 0 ho hk
      rw [h2] at h1 ⊢
      rw [sw_succ] at h1
      cases hb : bW (L[(s + 0) % L.length]?.getD 0)
      · rw [hb] at h1
        have : sw L s 0 = 0 := rfl
        simp [this, b1] at h1
      · exact ⟨(s + 0) % L.length, Nat.mod_lt _ hL.pos, hb, cell_run L hL s 0 hs hk, h2⟩
    | succ k ih =>
      intro hk h1
      have h2 := va_row L hL s (k + 1) ho hk
      have h3 := va_row L hL s k ho (by omega)
      rw [h2] at h1 ⊢
      cases hb : bW (L[(s + (k + 1)) % L.length]?.getD 0)
      · rw [sw_succ, hb, ← h3] at h1 ⊢
        have e0 : b1 false = 0 := rfl
        rw [e0, Nat.add_zero] at h1 ⊢
        exact ih (by omega) h1
      · exact ⟨(s + (k + 1)) % L.length, Nat.mod_lt _ hL.pos, hb, cell_run L hL s (k + 1) hs hk, h2⟩
  obtain ⟨f, h1, h2, h3, h4⟩ := key k hk h
  exact ⟨f, h1, h2, h3.trans (cell_run L hL s k hs hk).symm, h4⟩

theorem hap_own {L : List Nat} (hL : Lay L) {f s : Nat} (hf : f < L.length) (hs : s < L.length) (hc : cellOf L f = cellOf L s) (h1 : kd L f = true) (h2 : kd L s = false) (h3 : clm L s = true) (h4 : vaOf L f ≠ vaOf L s) (h5 : ownW L s = some f) : hap L f s = true := by
  unfold hap byVal
  rw [hc, h1, h2, h3, vB_eq L hL f hf, vB_eq L hL s hs, if_pos h5, beq_eq_false_iff_ne.2 h4]
  simp

/-- a claimed read takes what is claimed -/
theorem rdV_ok (L : List Nat) (hR : Ring L) (hs : shown L = true) {k : Nat} (hk : k < L.length) (hkd : kd L (nx L (ordTo L k)) = false) (hcl : clm L (nx L (ordTo L k)) = true) : rdV L (nx L (ordTo L k)) (ordTo L k).reverse = vaOf L (nx L (ordTo L k)) := by
  have hL := hR.toLay
  have hi := shown_at hs hk
  obtain ⟨hx1, hx2⟩ := nx_spec L _ hi
  have hback : ∀ s, s < L.length → hap L (nx L (ordTo L k)) s = true → s ∉ ordTo L k := by
    intro s _ hh hm
    obtain ⟨k', hk', rfl⟩ := (mem_ordTo L k s).1 hm
    have := (nx_spec L _ (shown_at hs (show k' < L.length by omega))).2 _ hi hh
    exact hx1 (ord_mono L (by omega) this)
  have hmem : ∀ y, y ∈ ordTo L k → y < L.length := (ord_nodup hs (by omega)).2
  generalize hie : nx L (ordTo L k) = i at *
  have hlast : (∀ f, ownW L i = some f → f ∈ ordTo L k) → lastV L (cellOf L i) (ordTo L k).reverse = vaOf L i := by
    intro hown
    have hle : ∀ s, s ∈ ordTo L k → kd L s = true → cellOf L s = cellOf L i → vaOf L s ≤ vaOf L i := by
      intro s hm hks hcs
      apply Nat.le_of_not_lt
      intro hlt
      exact hback s (hmem s hm) (hap_ww hL hi (hmem s hm) hcs.symm hks hlt (Or.inr hcl)) hm
    unfold lastV
    by_cases h0 : vaOf L i = 0
    · cases hw : lastW L (cellOf L i) (ordTo L k).reverse with
      | none => exact h0.symm
      | some y =>
        obtain ⟨h3, h4, h5, _⟩ := lastW_some hw
        rw [List.mem_reverse] at h3
        have := hle y h3 h4 h5
        have := va_pos L hL (hmem y h3) h4
        omega
    · obtain ⟨f, f1, f2, f3, f4⟩ := va_write L hL hi (by omega)
      have hfm : f ∈ ordTo L k := by
        by_cases ho : ownW L i = some f
        · exact hown f ho
        · exact hx2 f f1 (hap_wr hL f1 hi f3 f2 hkd hcl f4 ho)
      cases hw : lastW L (cellOf L i) (ordTo L k).reverse with
      | none => exact absurd f3 (lastW_none hw f (by rw [List.mem_reverse]; exact hfm) f2)
      | some y =>
        obtain ⟨h3, h4, h5, h6⟩ := lastW_some hw
        rw [List.mem_reverse] at h3
        have h7 := hle y h3 h4 h5
        have h8 := h6 f (by rw [List.mem_reverse]; exact hfm) f2 f3
        dsimp only
        by_cases h9 : vaOf L y = vaOf L i
        · exact h9
        · have hh := hap_ww hL (hmem y h3) f1 (h5.trans f3.symm) f2 (show vaOf L y < vaOf L f by omega) (Or.inl h4)
          have := ord_rnk hs (show k ≤ L.length by omega) (hmem y h3) hfm hh
          omega
  unfold rdV
  cases ho : ownW L i with
  | none => exact hlast (fun f hf => by rw [ho] at hf; cases hf)
  | some w =>
    dsimp only
    by_cases hw : w ∈ (ordTo L k).reverse
    · rw [if_pos hw]
      exact hlast (fun f hf => by
        rw [ho] at hf
        obtain rfl := Option.some.inj hf
        exact List.mem_reverse.1 hw)
    · rw [if_neg hw]
      obtain ⟨h1, h2, h3, h4, _⟩ := ownTo_some L i i w ho
      apply Classical.byContradiction
      intro hne
      have := hx2 w (by omega) (hap_own hL (by omega) hi h3 h4 hkd hcl hne ho)
      exact hw (List.mem_reverse.2 this)

theorem pkI_spec {l : List (Nat × Bool)} {m : Nat × Bool} (h : m ∈ l) : pkI l m < l.length ∧ l[pkI l m]? = some m := by
  have hlt : firstNo (fun k => !(l[k]?.getD (0, false) == m)) l.length < l.length := by
    apply Nat.lt_of_not_le
    intro hge
    obtain ⟨n, hn, e⟩ := List.getElem_of_mem h
    have := firstNo_yes (fun k => !(l[k]?.getD (0, false) == m)) l.length n (by omega)
    rw [List.getElem?_eq_getElem hn, e] at this
    simp at this
  have h2 := firstNo_no _ _ hlt
  unfold pkI
  rw [if_pos hlt]
  refine ⟨hlt, ?_⟩
  generalize firstNo (fun k => !(l[k]?.getD (0, false) == m)) l.length = n at *
  rw [List.getElem?_eq_getElem hlt] at h2 ⊢
  simpa using h2
theorem Leg_at {code : List (List RIns)} {ms : List (Nat × Bool)} (h : Leg code st0 ms) : ∀ n, n < ms.length → ms[n]?.getD (0, false) ∈ mvs code (exe code st0 (ms.take n)).th := by
  intro n hn
  have e : ms = ms.take n ++ ms.drop n := (List.take_append_drop n ms).symm
  rw [e, Leg_append] at h
  have h2 := h.2
  rw [List.drop_eq_getElem_cons hn] at h2
  rw [List.getElem?_eq_getElem hn]
  exact h2.1
theorem take_snocM (l : List (Nat × Bool)) (n : Nat) (h : n < l.length) : l.take (n + 1) = l.take n ++ [l[n]?.getD (0, false)] := by
  rw [List.take_succ_eq_append_getElem h]; simp [h]
theorem pkTo_exe (code : List (List RIns)) (ms : List (Nat × Bool)) (n : Nat) (hn : n ≤ ms.length) : (pkTo code ms n).2 = exe code st0 (ms.take n) := by
  induction n with
  | zero => rfl
  | succ n ih =>
    rw [pkTo, take_snocM ms n (by omega), exe_append, ← ih (by omega)]
    rfl
theorem runS_stop (code : List (List RIns)) (model : Nat) (l : List Int) (s : St) (h : (mvs code s.th).length = 0) : runS code model l s = s := by
  cases l with
  | nil => rfl
  | cons c l => rw [runS, if_pos h]
theorem runS_append (code : List (List RIns)) (model : Nat) (a b : List Int) (s : St) : runS code model (a ++ b) s = runS code model b (runS code model a s) := by
  induction a generalizing s with
  | nil => rfl
  | cons c a ih =>
    rw [List.cons_append, runS, runS]
    split
    · rename_i h; rw [runS_stop _ _ _ _ h]
    · exact ih _
theorem pickN_nat {p n : Nat} (h : p < n) : pickN (p : Int) n = p := by
  unfold pickN
  rw [if_neg (by omega), Int.emod_eq_of_lt (by omega) (by omega)]
  simp
/-- the picks make the moves -/
theorem picks_run (code : List (List RIns)) (ms : List (Nat × Bool)) (h : Leg code st0 ms) (n : Nat) (hn : n ≤ ms.length) : runS code 1 ((pkTo code ms n).1.map fun x : Nat => (x : Int)) st0 = exe code st0 (ms.take n) := by
  induction n with
  | zero => rfl
  | succ n ih =>
    have hm := Leg_at h n (by omega)
    have he := pkTo_exe code ms n (by omega)
    obtain ⟨h1, h2⟩ := pkI_spec hm
    rw [pkTo, List.map_append, runS_append, ih (by omega), he, take_snocM ms n (by omega), exe_append]
    show runS code 1 [_] _ = moveS code 1 _ _
    rw [runS, if_neg (by omega), pickN_nat h1, runS]
    unfold moveN
    rw [h2]

/-- the lengths of the threads' codes -/
def sumT (L : List Nat) (n : Nat) : Nat → Nat
  | 0 => 0
  | t + 1 => sumT L n t + (cdTo L t n).length
theorem sumT_succ (L : List Nat) (n T : Nat) : sumT L (n + 1) T = sumT L n T + if thrOf L n < T then (em L n).length else 0 := by
  induction T with
  | zero => rfl
  | succ T ih =>
    rw [sumT, sumT, ih, cdTo, List.length_append]
    by_cases h : thrOf L n = T
    · rw [if_pos h, if_neg (by omega), if_pos (by omega)]; omega
    · rw [if_neg h]
      by_cases h2 : thrOf L n < T
      · rw [if_pos h2, if_pos (by omega)]; simp; omega
      · rw [if_neg h2, if_neg (by omega)]; simp
theorem sumT_le (L : List Nat) (n T : Nat) : sumT L n T ≤ 2 * n := by
  induction n with
  | zero =>
    have : ∀ T, sumT L 0 T = 0 := by
      intro T
      induction T with
      | zero => rfl
      | succ T ih => rw [sumT, ih]; rfl
    rw [this]; exact Nat.le_refl _
  | succ n ih =>
    rw [sumT_succ]
    have := em_len L n
    split <;> omega
theorem mu_code (L : List Nat) (k : Nat) (hk : k ≤ L.countP lT) : muTo (codeOf L) st0 k = 2 * sumT L L.length k := by
  induction k with
  | zero => rfl
  | succ k ih =>
    rw [muTo, sumT, ih (by omega), codeOf_at L (by omega)]
    show 2 * sumT L L.length k + (2 * ((cdTo L k L.length).length - 0) + 0) = _
    omega
theorem Leg_len (code : List (List RIns)) (s : St) (ms : List (Nat × Bool)) (h : Leg code s ms) : ms.length ≤ mu code s := by
  induction ms generalizing s with
  | nil => exact Nat.zero_le _
  | cons m ms ih =>
    have h1 := ih _ h.2
    have h2 := mu_move code 1 (Or.inr rfl) s m h.1
    simp only [List.length_cons]
    omega

/-- what Script answers shows the cycle -/
theorem shows_core (L : List Nat) (hR : Ring L) (h16 : L.length ≤ 16) (hlT : lT (L[L.length - 1]?.getD 0) = true) (hC16 : L.countP lC ≤ 16) (hs : shown L = true) :
    Leg (codeOf L) st0 (moves0 L) ∧ (moves0 L).length ≤ 64 ∧ metS (L.countP lT) (wantOf L) (endS (L.countP lT) (playS (codeOf L) 1 ((scrL L).map fun x : Nat => (x : Int)))) = true := by
  have hL := hR.toLay
  obtain ⟨hleg, ⟨q, hI⟩, hpc⟩ := order_ok L hL h16 hlT hs L.length (Nat.le_refl _)
  have hlen : (moves0 L).length ≤ 64 := by
    have h1 := Leg_len _ _ _ hleg
    have h2 : mu (codeOf L) st0 = muTo (codeOf L) st0 (L.countP lT) := by unfold mu; rw [codeOf_length]
    rw [h2, mu_code L _ (Nat.le_refl _)] at h1
    have h3 := sumT_le L L.length (L.countP lT)
    show (moTo L L.length).length ≤ 64
    omega
  refine ⟨hleg, hlen, ?_⟩
  have hthr : ∀ i, i < L.length → thrOf L i < L.countP lT := fun i hi => thr_lt L hL.pos hlT hi
  have hall : ∀ i, i < L.length → i ∈ (ordTo L L.length).reverse := fun i hi => List.mem_reverse.2 (ord_all hs hi)
  have hrun : runS (codeOf L) 1 ((scrL L).map fun x : Nat => (x : Int)) st0 = exe (codeOf L) st0 (moves0 L) := by
    have := picks_run (codeOf L) (moves0 L) hleg (moves0 L).length (Nat.le_refl _)
    rw [List.take_length] at this
    exact this
  have hend : mvs (codeOf L) (exe (codeOf L) st0 (moves0 L)).th = [] := by
    apply List.eq_nil_iff_forall_not_mem.2
    rintro ⟨t, b⟩ hm
    obtain ⟨ht, h2⟩ := (mem_mvs _ _ _).1 hm
    rw [codeOf_length] at ht
    dsimp only at ht h2
    rcases h2 with ⟨_, hc⟩ | ⟨_, hb⟩
    · have hp := canS_pc hc
      rw [codeOf_at L ht] at hp
      have hno : ∀ i, i < L.length → thrOf L i = t → posn L i ≠ ((exe (codeOf L) st0 (moves0 L)).th t).pc := by
        intro i hi hti e
        have := (hI.lt i (hall i hi)).2
        rw [hti] at this
        have e2 : ((exe (codeOf L) st0 (moTo L L.length)).th t).pc = ((exe (codeOf L) st0 (moves0 L)).th t).pc := rfl
        omega
      obtain ⟨m, hm1, hm2, hm3, _⟩ := code_at2 L t L.length _ hp hno
      have := (hI.lt m (hall m hm1)).2
      rw [hm2] at this
      have e2 : ((exe (codeOf L) st0 (moTo L L.length)).th t).pc = ((exe (codeOf L) st0 (moves0 L)).th t).pc := rfl
      omega
    · have hbe : ((exe (codeOf L) st0 (moves0 L)).th t).buf = [] := can_fence hI (fun i hi _ _ _ => hall i hi)
      rw [hbe] at hb
      cases hb
  have hplay : playS (codeOf L) 1 ((scrL L).map fun x : Nat => (x : Int)) = exe (codeOf L) st0 (moves0 L) := by
    unfold playS
    rw [hrun]
    have hst : ∀ n, settle (codeOf L) 1 n (exe (codeOf L) st0 (moves0 L)) = exe (codeOf L) st0 (moves0 L) := by
      intro n
      induction n with
      | zero => rfl
      | succ n ih =>
        rw [settle, ih, hend]
        rfl
    exact hst 1024
  rw [hplay]
  refine (met_iff L _ _).2 ⟨fun i hi hk hl => ?_, fun c hc hw => ?_⟩
  · rw [endS_reg _ _ (hthr i hi) (by have := reg_le L i; omega)]
    obtain ⟨k, hk1, rfl⟩ := ord_when hs hi
    obtain ⟨rest, hr⟩ := ord_split L hk1
    have hsp : (ordTo L L.length).reverse = rest.reverse ++ nx L (ordTo L k) :: (ordTo L k).reverse := by rw [hr]; simp
    have h1 := (hI.hi _ _ _ hsp).2 hk
    have hcl : clm L (nx L (ordTo L k)) = true := by rw [clm_eq L hR _ hi, hk, hl]; rfl
    rw [rdV_ok L hR hs hk1 hk hcl] at h1
    exact h1
  · rw [endS_mem _ _ (by omega)]
    have h1 := hI.me c
    have e2 : (exe (codeOf L) st0 (moTo L L.length)).mem c = (exe (codeOf L) st0 (moves0 L)).mem c := rfl
    rw [← e2, h1]
    obtain ⟨i, j, hi, hj, hki, hkj, hci, hcj, hvi, hvj⟩ := two_writes L hL c hw
    unfold lastV
    cases hlw : lastW L c (ordTo L L.length).reverse with
    | none => exact absurd hcj (lastW_none hlw j (hall j hj) hkj)
    | some y =>
      obtain ⟨h3, h4, h5, h6⟩ := lastW_some hlw
      have hy : y < L.length := (hI.lt y h3).1
      dsimp only
      have hle := va_le L hL hy
      rw [h5] at hle
      have hpos := va_pos L hL hy h4
      by_cases h7 : vaOf L y = 2
      · exact h7
      · have hyi : y = i := va_inj L hL hy hi h4 hki (h5.trans hci.symm) (by omega)
        subst hyi
        have h8 := h6 j (hall j hj) hkj hcj
        have hh := hap_ww hL hi hj (hci.trans hcj.symm) hkj (by omega) (Or.inl hki)
        have := ord_rnk hs (Nat.le_refl _) hi (ord_all hs hj) hh
        omega

end Go.Proofs.YtokfiflflcfidabDoor

namespace Go.Proofs.YtokfiflflcfidabDoor
open Go.RowKit

theorem Own.scr {w : World} {base T : Nat} {v : Value} {l : List Nat} (h : Own w base T v l) (hl : ∀ x ∈ l, x ≤ 1000) : ScrRd w v (l.map fun x : Nat => (x : Int)) := by
  obtain ⟨a, cap, rfl, h1⟩ := h.nums
  refine ⟨a, cap, by rw [List.length_map], fun i hi => ?_⟩
  rw [List.length_map] at hi
  obtain ⟨b, off, e, h2, h3⟩ := h1 i hi
  have e1 : (l.map fun x : Nat => (x : Int))[i]?.getD 0 = ((l[i]?.getD 0 : Nat) : Int) := by simp [hi]
  have e2 := hl (l[i]?.getD 0) (by rw [List.getElem?_eq_getElem hi]; exact List.getElem_mem _)
  exact ⟨b, off, e, h2, by rw [e1]; exact h3, by rw [e1]; omega⟩
theorem scr_small (L : List Nat) (hT : L.countP lT ≤ 16) : ∀ x ∈ scrL L, x ≤ 1000 := by
  have key : ∀ n, ∀ x ∈ (pkTo (codeOf L) (moves0 L) n).1, x ≤ 1000 := by
    intro n
    induction n with
    | zero => intro x hx; cases hx
    | succ n ih =>
      intro x hx
      rw [pkTo] at hx
      rcases List.mem_append.1 hx with h | h
      · exact ih x h
      · rw [List.mem_singleton] at h
        have h1 := pkI_le (mvs (codeOf L) (pkTo (codeOf L) (moves0 L) n).2.th) ((moves0 L)[n]?.getD (0, false))
        have h2 := mvTo_length (codeOf L) (pkTo (codeOf L) (moves0 L) n).2.th (codeOf L).length
        rw [codeOf_length] at h2
        have h3 : (mvs (codeOf L) (pkTo (codeOf L) (moves0 L) n).2.th).length ≤ 2 * L.countP lT := by unfold mvs; rw [codeOf_length]; exact h2
        omega
  exact key _

set_option maxRecDepth 100000 in
set_option maxHeartbeats 1600000 in
/-- Script of a cycle that has been read -/
theorem script_read (s : ByteArray) (hs : s.size ≤ 9223372036854775807) (w : World) (hT : TabN w) (h0 : (rd s.data.toList).1 = 0) :
    Calls Tryd.prog 14 #[.string s] w fun r w' => ∃ v e, r = .returned (.tuple #[v, .int .i64 (e : Nat), .int .i64 0]) ∧ (shown (ringL s.data.toList) = true → e = 0 ∧ Own w' w.heap.size 3 v (scrL (ringL s.data.toList))) ∧ (shown (ringL s.data.toList) = false → e = 8 ∧ v = .slice none 0 0) ∧ Below w.heap.size w w' := by
  go_enter Tryd.func14, Tryd.ntmps14
  go_wp2_with fail
  refine (readCycle_any s hs _ hT).mono ?_
  rintro r w1 ⟨v, rfl, hyes, hno, hb1⟩
  obtain ⟨hown, _⟩ := hyes h0
  have hrr := rd_ring h0
  have HR : Hid _ := hrr
  have hl := hrr.2.2.2.2.2.2
  have hl2 : (edgesOf s.data.toList).length ≤ 16 := by have h1 := hrr.2.2.1; have h2 := hrr.2.2.2.2.1; omega
  obtain ⟨g1, c1, hv1, hg1, hG1⟩ := hown.shape hl
  subst hv1
  have HB1 : Hid (Below w.heap.size w w1) := hb1
  rw [h0]
  clear hyes hno hown h0 hrr hb1
  go_wp2_with fail
  refine (leastRotation_any (edgesOf s.data.toList) g1 0 c1 _ hG1 hl (by omega)).mono ?_
  rintro r w2 ⟨v2, rfl, hown2, hb2⟩
  have hll : (leastOf (edgesOf s.data.toList)).length = (edgesOf s.data.toList).length := leastTo_length _ _
  obtain ⟨g2, c2, hv2, hg2, hG2⟩ := hown2.shape (by rw [hll]; exact hl)
  have HG2 : Hid _ := hG2
  have HB2 : Hid (Below w.heap.size w w2) := HB1.out.trans (hb2.mono HB1.out.size)
  have hC0 : 0 < (leastOf (edgesOf s.data.toList)).countP lC := by
    rw [← ring_count lC _ (by rw [hll]; exact hl)]; exact HR.out.1.toLay.some
  have hce := cycleEvents_any (leastOf (edgesOf s.data.toList)) g2 0 c2 w2 hG2 HR.out.2.2.2.2.2.1 (by rw [hll]; exact hl) (by rw [hll]; omega) hC0
  have hbt := fun wq hq ht => buildTest_any (leastOf (edgesOf s.data.toList)) g2 0 c2 wq hq HR.out.2.2.2.2.2.1 (by rw [hll]; exact hl) (by rw [hll]; omega) HR.out.1 ht
  rw [hll] at hce hv2 hbt
  subst hv2
  have HCE : Hid _ := hce
  have HBT : Hid _ := hbt
  clear hce hown2 hb2 hC0 hll hbt
  go_wp2_with fail
  refine Calls.mono HCE.out ?_
  rintro r w3 ⟨v3, rfl, hown3, hb3⟩
  have hrl : (ringL s.data.toList).length = (edgesOf s.data.toList).length := HR.out.2.2.2.2.1
  have hown3' : Own5 w3 w2.heap.size 110 v3 (ringL s.data.toList) (ringL s.data.toList).length := by
    have e1 : (leastOf (edgesOf s.data.toList)).length = (edgesOf s.data.toList).length := leastTo_length _ _
    rw [hrl]
    have : ringL s.data.toList = turn (leastOf (edgesOf s.data.toList)) (outTo (leastOf (edgesOf s.data.toList)) (edgesOf s.data.toList).length % (edgesOf s.data.toList).length) := by
      show ringOf (leastOf (edgesOf s.data.toList)) = _
      unfold ringOf
      rw [e1]
    rw [this]
    exact hown3
  obtain ⟨g3, c3, hv3, hg3, hP3⟩ := Own5.shape hown3' (by rw [hrl]; exact hl)
  subst hv3
  have HB3 : Hid (Below w.heap.size w w3) := HB2.out.trans (hb3.mono HB2.out.size)
  have HB23 : Hid (Below w2.heap.size w2 w3) := hb3
  have hl16 : (ringL s.data.toList).length ≤ 16 := by omega
  have HP3 : Hid (PRd w3 g3 (ringL s.data.toList)) := hP3
  have HHP : Hid _ := happenings_any (ringL s.data.toList) g3 c3 w3 hP3 HR.out.1.small (by omega)
  clear hown3 hown3' hb3 hrl hP3
  go_wp2_with fail
  refine Calls.mono HHP.out ?_
  rintro r w4 ⟨v4, rfl, hy4, hn4, hb4⟩
  have HB4 : Hid (Below w.heap.size w w4) := HB3.out.trans (hb4.mono HB3.out.size)
  cases hsh : shown (ringL s.data.toList)
  · have hvn := hn4 hsh
    subst hvn
    have HSF : Hid _ := hsh
    clear hy4 hn4 hb4 hsh
    go_wp2
    go_ret3
    exact ⟨_, 8, rfl, fun h => absurd (HSF.out.symm.trans h) (by simp), fun _ => ⟨rfl, rfl⟩, HB4.out⟩
  · have HSH : Hid _ := hsh
    have hO4 := hy4 hsh
    have HO4 : Hid (Own w4 w3.heap.size 3 v4 (ordTo (ringL s.data.toList) (ringL s.data.toList).length)) := hO4
    have HB34 : Hid (Below w3.heap.size w3 w4) := hb4
    have HSHW : Hid _ := shows_core (ringL s.data.toList) HR.out.1 HR.out.2.2.1 HR.out.2.1 (Nat.le_trans List.countP_le_length HR.out.2.2.1) hsh
    have HSC : Hid (SndC (codeOf (ringL s.data.toList))) := ring_sndC _ HR.out.1 HR.out.2.2.1 HR.out.2.1
    have HG4 : Hid (Arr w4 g2 0 (leastOf (edgesOf s.data.toList))) := Arr.kept HG2.out (HB23.out.trans (hb4.mono HB23.out.size))
    clear hy4 hn4 hb4 hO4 hsh
    go_wp2_with fail
    refine Calls.mono (HBT.out _ HG4.out (hT.kept HB4.out)) ?_
    rintro r w5 ⟨cv, wv, rfl, hC5, hW5, hb5⟩
    obtain ⟨ca, cc, hcv, hC5'⟩ := id hC5
    obtain ⟨n3, hn3⟩ : ∃ n3, n3 = (codeQ (ringOf (leastOf (edgesOf s.data.toList)))).length := ⟨_, rfl⟩
    rw [← hn3] at hcv
    obtain ⟨wa, wc, hwv, _⟩ := id hW5
    obtain ⟨n4, hn4⟩ : ∃ n4, n4 = (wantQ (ringOf (leastOf (edgesOf s.data.toList)))).length := ⟨_, rfl⟩
    rw [← hn4] at hwv
    subst hcv
    subst hwv
    have HB5 : Hid (Below w.heap.size w w5) := HB4.out.trans (hb5.mono HB4.out.size)
    have hbA : Below w5.heap.size w5 (w5.alloc (.cells #[.string ⟨(tx (leastOf (edgesOf s.data.toList))).toArray⟩, .slice ca n3 cc, .slice wa n4 wc] 52)) := (Below.refl _ _).alloc (Nat.le_refl _) _
    have HBA : Hid (Below w.heap.size w (w5.alloc (.cells #[.string ⟨(tx (leastOf (edgesOf s.data.toList))).toArray⟩, .slice ca n3 cc, .slice wa n4 wc] 52))) := HB5.out.trans (hbA.mono HB5.out.size)
    have HB4A : Hid (Below w4.heap.size w4 (w5.alloc (.cells #[.string ⟨(tx (leastOf (edgesOf s.data.toList))).toArray⟩, .slice ca n3 cc, .slice wa n4 wc] 52))) := hb5.trans (hbA.mono hb5.size)
    have HPA : Hid _ := HP3.out.kept (HB34.out.trans (HB4A.out.mono HB34.out.size))
    have HOA : Hid _ := Own.nums (HO4.out.kept HB4A.out)
    have HMO : Hid _ := movesInOrder_any (ringL s.data.toList) g3 c3 v4 _ HPA.out HR.out.1.small HOA.out HSH.out hl16
    have HC5 : Hid (Rd44 w4.heap.size w5.heap.size w5 (.slice ca n3 cc) (codeQ (ringL s.data.toList))) := hC5
    clear hC5 hW5 hC5' hn3 hn4 hb5 hbA
    go_wp2_with fail
    refine Calls.mono HMO.out ?_
    rintro r w6 ⟨v6, rfl, hown6, hb6⟩
    have y1 : w6.cell? ⟨w5.heap.size, 1, none⟩ = some (.slice ca n3 cc) := (hb6.cell (p := ⟨w5.heap.size, 1, none⟩) (by simp)).trans (by simp)
    have hb56 : Below w5.heap.size w5 w6 := ((Below.refl _ _).alloc (Nat.le_refl _) _).trans (hb6.mono (by simp))
    have HB6 : Hid (Below w.heap.size w w6) := HBA.out.trans (hb6.mono HBA.out.size)
    have HCR : Hid _ := codes_of (Rd44.span HC5.out (Span.of_below hb56 (Nat.le_refl _))) hb56.size HSC.out
    have HM6 : Hid _ := OwnMv.rd hown6
    have HOK : Hid (∀ n, n < (moves0 (ringL s.data.toList)).length → (moves0 (ringL s.data.toList))[n]?.getD (0, false) ∈ mvs (codeOf (ringL s.data.toList)) (pkTo (codeOf (ringL s.data.toList)) (moves0 (ringL s.data.toList)) n).2.th) := fun n hn => by
      rw [pkTo_exe _ _ n (by omega)]
      exact Leg_at HSHW.out.1 n hn
    have HPK : Hid _ := picksOf_any (codeOf (ringL s.data.toList)) (moves0 (ringL s.data.toList)) (.slice ca n3 cc) v6 w6 HCR.out HSC.out HM6.out (by have := HSHW.out.2.1; omega) HOK.out
    clear hown6 hb6 hb56
    go_wp2_with fail
    refine Calls.mono HPK.out ?_
    rintro r w7 ⟨v7, rfl, hown7, hb7⟩
    have HO7 : Hid (Own w7 w.heap.size 3 v7 (scrL (ringL s.data.toList))) := Own.rebase hown7 HB6.out.size
    have HB7 : Hid (Below w.heap.size w w7) := HB6.out.trans (hb7.mono HB6.out.size)
    clear hown7 hb7
    go_wp2
    go_ret3
    exact ⟨v7, 0, rfl, fun _ => ⟨rfl, HO7.out⟩, fun h => absurd (HSH.out.symm.trans h) (by simp), HB7.out⟩

set_option maxRecDepth 100000 in
set_option maxHeartbeats 400000 in
theorem script_err (s : ByteArray) (hs : s.size ≤ 9223372036854775807) (w : World) (hT : TabN w) (h0 : (rd s.data.toList).1 ≠ 0) :
    Calls Tryd.prog 14 #[.string s] w fun r w' => r = .returned (.tuple #[.slice none 0 0, .int .i64 ((rd s.data.toList).1 : Nat), .int .i64 ((rd s.data.toList).2 : Nat)]) ∧ Below w.heap.size w w' := by
  go_enter Tryd.func14, Tryd.ntmps14
  go_wp2_with fail
  refine (readCycle_any s hs _ hT).mono ?_
  rintro r w1 ⟨v, rfl, hyes, hno, hb1⟩
  have hv := hno h0
  subst hv
  have h0i : (((rd s.data.toList).1 : Int) == 0) = false := by rw [beq_eq_false_iff_ne]; omega
  clear hyes hno h0
  go_wp2
  go_ret3
  exact ⟨rfl, hb1⟩

end Go.Proofs.YtokfiflflcfidabDoor
