import Derived.Test.YtokfiflflcfidabDoorSndM
import Derived.Test.YtokfiflflcfidabDoorMachE
namespace Go.Proofs.YtokfiflflcfidabDoor
open Go.RowKit

theorem getD_map {α β : Type} (f : α → β) (l : List α) (i : Nat) (d : α) (e : β) (h : i < l.length) : (l.map f)[i]?.getD e = f (l[i]?.getD d) := by simp [h]

theorem code_of {lo hi : Nat} {w : World} {v : Value} {l : List RIns} (h : Rd4 lo hi w v (l.map q4I)) (hhi : hi ≤ w.heap.size) (hl : 0 < l.length) : CodeRd w v l := by
  obtain ⟨a, cap, rfl, h1⟩ := h
  obtain ⟨b, off, rfl, _, h2, _⟩ := h1 0 (by simpa using hl)
  refine ⟨hl, b, off, cap, by rw [List.length_map], by omega, fun i hi => ?_⟩
  obtain ⟨b', off', he, _, _, hat⟩ := h1 i (by simpa using hi)
  simp only [Option.some.injEq, Addr.mk.injEq, and_true] at he
  obtain ⟨rfl, rfl⟩ := he
  rw [getD_map q4I l i rins0 q0 hi] at hat
  exact ⟨hat.f0, hat.f1, hat.f2, hat.f3⟩
theorem codes_of {lo hi : Nat} {w : World} {v : Value} {L : List Nat} (h : Rd44 lo hi w v (codeQ L)) (hhi : hi ≤ w.heap.size) (hS : SndC (codeOf L)) : CodesRd w v (codeOf L) := by
  obtain ⟨a, cap, rfl, h1⟩ := h
  have hlen : (codeQ L).length = (codeOf L).length := by simp [codeQ]
  have hpos := hS.1
  obtain ⟨b, off, _, rfl, _, h2, _, _⟩ := h1 0 (by omega)
  refine ⟨hpos, b, off, cap, by rw [hlen], by omega, fun k hk => ?_⟩
  obtain ⟨b', off', vk, he, _, _, hc, hrow⟩ := h1 k (by omega)
  simp only [Option.some.injEq, Addr.mk.injEq, and_true] at he
  obtain ⟨rfl, rfl⟩ := he
  have hg : (codeQ L)[k]?.getD [] = ((codeOf L)[k]?.getD []).map q4I := by unfold codeQ; exact getD_map (fun l : List RIns => l.map q4I) (codeOf L) k [] [] hk
  rw [hg] at hrow
  exact ⟨vk, hc, code_of hrow hhi (hS.2.2 k hk).1⟩
theorem want_of {lo hi : Nat} {w : World} {v : Value} {l : List RCl} (h : Rd4 lo hi w v (l.map q4C)) (hhi : hi ≤ w.heap.size) : WantRd w v l := by
  obtain ⟨a, cap, rfl, h1⟩ := h
  refine ⟨a, cap, by rw [List.length_map], fun i hi => ?_⟩
  obtain ⟨b, off, he, _, h2, hat⟩ := h1 i (by simpa using hi)
  rw [getD_map q4C l i rcl0 q0 hi] at hat
  exact ⟨b, off, he, by omega, hat.f0, hat.f1, hat.f2, hat.f3⟩

/-- the code of a ring is sound -/
theorem ring_sndC (L : List Nat) (hR : Ring L) (h16 : L.length ≤ 16) (hlast : lT (L[L.length - 1]?.getD 0) = true) : SndC (codeOf L) := by
  have hL := hR.toLay
  have hlt := thr_lt L hL.pos hlast hL.pos
  have hTle : L.countP lT ≤ L.length := List.countP_le_length
  have hCle : L.countP lC ≤ L.length := List.countP_le_length
  have hT : thrOf L L.length = L.countP lT := by unfold thrOf; rw [List.take_length]
  rw [SndC, codeOf_length]
  refine ⟨by omega, by omega, fun k hk => ?_⟩
  rw [codeOf_at L hk]
  obtain ⟨i, hi, hti⟩ := thr_has L L.length (Nat.le_refl _) k (by omega)
  have hpos := posn_in L hi
  rw [hti] at hpos
  have hlen := cdTo_len L k L.length
  refine ⟨by omega, by omega, fun p hp => ?_⟩
  have hins : insOf (codeOf L) k p = (cdTo L k L.length)[p]?.getD rins0 := by unfold insOf; rw [codeOf_at L hk]
  rw [hins]
  rcases code_at L k L.length p hp with ⟨h1, _⟩ | ⟨j, h1, _, _, h4⟩
  · rw [h1]; exact ⟨by decide, by decide, by decide⟩
  · rw [h4]
    have hc := cell_lt L hL j
    have hr := reg_le L j
    unfold insE
    cases kd L j
    · exact ⟨by show regOf L j < 16; omega, by show cellOf L j < 16; omega, Or.inr (Or.inl rfl)⟩
    · exact ⟨by show 0 < 16; omega, by show cellOf L j < 16; omega, Or.inl rfl⟩
/-- and so are its claims -/
theorem ring_sndW (L : List Nat) (hR : Ring L) (h16 : L.length ≤ 16) (hlast : lT (L[L.length - 1]?.getD 0) = true) : SndW (codeOf L).length (wantOf L) := by
  have hL := hR.toLay
  have hCle : L.countP lC ≤ L.length := List.countP_le_length
  have hmem : ∀ c ∈ wantOf L, (-1 ≤ c.thr ∧ c.thr < (L.countP lT : Nat)) ∧ c.reg < 16 ∧ c.cell < 16 := by
    intro c hc
    unfold wantOf at hc
    rcases List.mem_append.1 hc with h | h
    · obtain ⟨i, hi, _, _, rfl⟩ := (mem_wrTo _ _ _).1 h
      have h1 := thr_lt L hL.pos hlast hi
      have h2 := reg_le L i
      exact ⟨⟨by dsimp only; omega, by dsimp only; omega⟩, by dsimp only; omega, by dsimp only; omega⟩
    · obtain ⟨i, hi, _, rfl⟩ := (mem_wcTo _ _ _).1 h
      exact ⟨⟨by dsimp only; omega, by dsimp only; omega⟩, by dsimp only; omega, by dsimp only; omega⟩
  rw [SndW, codeOf_length]
  refine ⟨?_, fun i hi => ?_⟩
  · unfold wantOf
    rw [List.length_append]
    have := wrTo_len L L.length
    have := wcTo_len L (L.countP lC)
    omega
  · have : (wantOf L)[i]?.getD rcl0 = (wantOf L)[i] := by simp [hi]
    rw [this]
    exact hmem _ (List.getElem_mem hi)

end Go.Proofs.YtokfiflflcfidabDoor
