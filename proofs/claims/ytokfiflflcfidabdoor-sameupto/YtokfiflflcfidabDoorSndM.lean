import Derived.Test.YtokfiflflcfidabDoorSndT
import Derived.Test.YtokfiflflcfidabDoorBldU
namespace Go.Proofs.YtokfiflflcfidabDoor
open Go.RowKit

theorem nmL_ok (e : Nat) : (nmL e).all okB = true := by unfold nmL; split <;> decide
theorem tx_ok (l : List Nat) (n : Nat) : (txTo l n).all okB = true := by
  induction n with
  | zero => rfl
  | succ n ih =>
    simp only [txTo, List.all_append, nmL_ok, Bool.and_true]
    split
    · rfl
    · rw [List.all_append, ih]; decide

/-- every thread has an event -/
theorem thr_has (L : List Nat) (k : Nat) (hk : k ≤ L.length) : ∀ t, t < thrOf L k → ∃ i, i < k ∧ thrOf L i = t := by
  induction k with
  | zero => intro t ht; simp [thrOf] at ht
  | succ k ih =>
    intro t ht
    have hs := thr_succ L k (by omega)
    by_cases h : t < thrOf L k
    · obtain ⟨i, h1, h2⟩ := ih (by omega) t h
      exact ⟨i, by omega, h2⟩
    · have hb : b1 (lT (L[k]?.getD 0)) ≤ 1 := by unfold b1; split <;> omega
      exact ⟨k, by omega, by omega⟩

theorem insE_snd (L : List Nat) (hR : Ring L) (h16 : L.length ≤ 16) (i : Nat) (hi : i < L.length) : sndI (q4I (insE L i)) = true := by
  have hc := cell_lt L hR.toLay i
  have hC : L.countP lC ≤ L.length := List.countP_le_length
  have hv := va_le L hR.toLay hi
  have hf := hR.few (cellOf L i)
  have hr := reg_le L i
  unfold insE
  cases kd L i
  · simp [q4I, sndI]; omega
  · simp [q4I, sndI]; omega

theorem row_snd (L : List Nat) (hR : Ring L) (h16 : L.length ≤ 16) (t : Nat) (ht : t < L.countP lT) : sndRow ((cdTo L t L.length).map q4I) = true := by
  have hall : ∀ p, p < (cdTo L t L.length).length → sndI (q4I ((cdTo L t L.length)[p]?.getD rins0)) = true := by
    intro p hp
    rcases code_at L t L.length p hp with ⟨h1, _⟩ | ⟨i, h1, _, _, h4⟩
    · rw [h1]; decide
    · rw [h4]; exact insE_snd L hR h16 i h1
  have hT : thrOf L L.length = L.countP lT := by unfold thrOf; rw [List.take_length]
  obtain ⟨i, hi, hti⟩ := thr_has L L.length (Nat.le_refl _) t (by omega)
  have hpos := posn_in L hi
  rw [hti] at hpos
  have hlen := cdTo_len L t L.length
  unfold sndRow
  rw [List.length_map, decide_eq_true (show 0 < (cdTo L t L.length).length by omega), decide_eq_true (show (cdTo L t L.length).length ≤ 32 by omega), Bool.true_and, Bool.true_and, List.all_map, List.all_eq_true]
  intro x hx
  obtain ⟨p, hp, rfl⟩ := List.getElem_of_mem hx
  have := hall p hp
  simpa [hp] using this

/-- a built test is sound -/
theorem built_snd {s : List UInt8} (h : (rd s).1 = 0) : sndT (tx (baseL s)) (codeQ (ringL s)) (wantQ (ringL s)) = true := by
  obtain ⟨hR, hlast, h16, hbl, hrl, hE, hpos⟩ := rd_ring h
  have hL := hR.toLay
  have hlt := thr_lt (ringL s) hL.pos hlast hL.pos
  have hTle : (ringL s).countP lT ≤ (ringL s).length := List.countP_le_length
  have hCle : (ringL s).countP lC ≤ (ringL s).length := List.countP_le_length
  have hcl : (codeQ (ringL s)).length = (ringL s).countP lT := by simp [codeQ, codeOf]
  have hwl : (wantQ (ringL s)).length ≤ 32 := by
    unfold wantQ wantOf
    rw [List.length_map, List.length_append]
    have := wrTo_len (ringL s) (ringL s).length
    have := wcTo_len (ringL s) ((ringL s).countP lC)
    omega
  have htl : (tx (baseL s)).length ≤ 63 := by unfold tx; rw [txTo_length]; omega
  unfold sndT
  rw [hcl, decide_eq_true htl, decide_eq_true (show 0 < (ringL s).countP lT by omega), decide_eq_true (show (ringL s).countP lT ≤ 16 by omega), decide_eq_true hwl, show (tx (baseL s)).all okB = true from tx_ok _ _]
  simp only [Bool.true_and, Bool.and_eq_true]
  refine ⟨?_, ?_⟩
  · rw [List.all_eq_true]
    intro row hrow
    simp only [codeQ, codeOf, List.map_map, List.mem_map, List.mem_range, Function.comp] at hrow
    obtain ⟨t, ht, rfl⟩ := hrow
    exact row_snd (ringL s) hR h16 t ht
  · rw [List.all_eq_true]
    intro c hc
    simp only [wantQ, wantOf, List.mem_map, List.mem_append] at hc
    obtain ⟨x, hx, rfl⟩ := hc
    rcases hx with hx | hx
    · obtain ⟨i, hi, hk, hlo, rfl⟩ := (mem_wrTo _ _ _).1 hx
      have h1 := thr_lt (ringL s) hL.pos hlast hi
      have h2 := reg_le (ringL s) i
      have h3 := va_le (ringL s) hL hi
      have h4 := hR.few (cellOf (ringL s) i)
      simp [q4C, sndK]
      omega
    · obtain ⟨i, hi, hw, rfl⟩ := (mem_wcTo _ _ _).1 hx
      simp [q4C, sndK]
      omega

end Go.Proofs.YtokfiflflcfidabDoor
