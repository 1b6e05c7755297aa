import Derived.Test.YtokfiflflcfidabDoorPlain
import Derived.Test.YtokfiflflcfidabDoorMem
import Derived.Test.YtokfiflflcfidabDoorMemQ
import Derived.Test.YtokfiflflcfidabDoorCdM
import Derived.WalkKit
import Derived.WalkSpells
namespace Go.Proofs.YtokfiflflcfidabDoor
open Go.RowKit

/-- the cells of the program's event i -/
def pevCells (L : List Nat) (i : Nat) : List Value := [.int .i64 ((L[prv L i]?.getD 0 : Nat) : Int), .int .i64 ((L[i]?.getD 0 : Nat) : Int), .int .i64 ((thrOf L i : Nat) : Int), .int .i64 ((cellOf L i : Nat) : Int), .int .i64 (((if kd L i then 0 else regOf L i : Nat)) : Int)]
def pevTo (L : List Nat) (n : Nat) : List Value := (List.range n).flatMap (pevCells L)
theorem pevTo_succ (L : List Nat) (n : Nat) : pevTo L (n + 1) = pevTo L n ++ pevCells L n := by simp [pevTo, List.range_succ]
theorem pevTo_at (L : List Nat) (n i j : Nat) (hi : i < n) (hj : j < 5) : (pevTo L n)[i * 5 + j]? = (pevCells L i)[j]? := by
  have hlen : ∀ m, (pevTo L m).length = m * 5 := by
    intro m
    induction m with
    | zero => rfl
    | succ m ih => rw [pevTo_succ, List.length_append, ih]; simp [pevCells]; omega
  induction n with
  | zero => omega
  | succ n ih =>
    rw [pevTo_succ]
    by_cases h : i = n
    · subst h
      rw [List.getElem?_append_right (by rw [hlen]; omega), hlen, show i * 5 + j - i * 5 = j from by omega]
    · rw [List.getElem?_append_left (by rw [hlen]; omega)]
      exact ih (by omega)
theorem pevCells_one (L : List Nat) (i : Nat) : ∀ u ∈ pevCells L i, u.oneCell' = true := by
  intro u hu
  simp [pevCells] at hu
  rcases hu with rfl | rfl | rfl | rfl | rfl <;> rfl

/-- v owns the first n of the program's events -/
def Own5 (w : World) (base T : Nat) (v : Value) (L : List Nat) (n : Nat) : Prop := w.ownsRow base T 5 v n (pevTo L n)
theorem Own5.nil (w : World) (base T : Nat) (L : List Nat) : Own5 w base T (.slice none 0 0) L 0 := World.ownsRow_nil w base T 5
/-- the program's events lie at g -/
structure PRd (w : World) (g : Nat) (L : List Nat) : Prop where
  lt : g < w.heap.size
  into : ∀ i, i < L.length → w.cell? ⟨g, i * 5, none⟩ = some (.int .i64 ((L[prv L i]?.getD 0 : Nat) : Int))
  out : ∀ i, i < L.length → w.cell? ⟨g, i * 5 + 1, none⟩ = some (.int .i64 ((L[i]?.getD 0 : Nat) : Int))
  thr : ∀ i, i < L.length → w.cell? ⟨g, i * 5 + 2, none⟩ = some (.int .i64 ((thrOf L i : Nat) : Int))
  cel : ∀ i, i < L.length → w.cell? ⟨g, i * 5 + 3, none⟩ = some (.int .i64 ((cellOf L i : Nat) : Int))
  reg : ∀ i, i < L.length → w.cell? ⟨g, i * 5 + 4, none⟩ = some (.int .i64 (((if kd L i then 0 else regOf L i : Nat)) : Int))
theorem PRd.kept {w w' : World} {g : Nat} {L : List Nat} (h : PRd w g L) (hb : Below w.heap.size w w') : PRd w' g L where
  lt := Nat.lt_of_lt_of_le h.lt hb.size
  into := fun i hi => (hb.cell (p := ⟨g, _, none⟩) h.lt).trans (h.into i hi)
  out := fun i hi => (hb.cell (p := ⟨g, _, none⟩) h.lt).trans (h.out i hi)
  thr := fun i hi => (hb.cell (p := ⟨g, _, none⟩) h.lt).trans (h.thr i hi)
  cel := fun i hi => (hb.cell (p := ⟨g, _, none⟩) h.lt).trans (h.cel i hi)
  reg := fun i hi => (hb.cell (p := ⟨g, _, none⟩) h.lt).trans (h.reg i hi)
theorem Own5.shape {w : World} {base T : Nat} {v : Value} {L : List Nat} (h : Own5 w base T v L L.length) (hl : 0 < L.length) : ∃ g cap, v = .slice (some ⟨g, 0, none⟩) L.length cap ∧ base ≤ g ∧ PRd w g L := by
  have h' := h
  rcases h.2 with ⟨_, hn⟩ | ⟨g, cap, cur, rfl, hbg, hgg, _⟩
  · omega
  · have key : ∀ i j u, i < L.length → j < 5 → (pevCells L i)[j]? = some u → w.cell? ⟨g, i * 5 + j, none⟩ = some u := by
      intro i j u hi hj hu
      have := h'.cells (g := g) rfl (i * 5 + j) u (by rw [pevTo_at L _ i j hi hj]; exact hu)
      rwa [addr_add0] at this
    exact ⟨g, cap, rfl, hbg, (Array.getElem?_eq_some_iff.1 hgg).1, fun i hi => key i 0 _ hi (by omega) rfl, fun i hi => key i 1 _ hi (by omega) rfl, fun i hi => key i 2 _ hi (by omega) rfl, fun i hi => key i 3 _ hi (by omega) rfl, fun i hi => key i 4 _ hi (by omega) rfl⟩

theorem reg_succ (L : List Nat) (n : Nat) (h : n < L.length) : regOf L (n + 1) = if lT (L[n]?.getD 0) then 0 else regOf L n + b1 (!kd L n) := by
  have hs := thr_succ L n h
  cases ht : lT (L[n]?.getD 0)
  · rw [ht] at hs
    have hs' : thrOf L (n + 1) = thrOf L n := by simpa [b1] using hs
    rw [if_neg (by simp)]
    unfold regOf
    rw [hs', List.range_succ, List.countP_append]
    cases hk : kd L n <;> simp [hk, b1]
  · rw [ht] at hs
    have hs' : thrOf L (n + 1) = thrOf L n + 1 := by simpa [b1] using hs
    rw [if_pos rfl]
    unfold regOf
    rw [hs', List.countP_eq_zero]
    intro k hk
    have h1 := thr_mono L (show k ≤ n by have := List.mem_range.1 hk; omega)
    have : (thrOf L k == thrOf L n + 1) = false := by rw [beq_eq_false_iff_ne]; omega
    simp [this]
theorem cell_succ (L : List Nat) (hC : 0 < L.countP lC) (n : Nat) (h : n < L.length) : cellOf L (n + 1) = if lC (L[n]?.getD 0) then (if cellOf L n + 1 = L.countP lC then 0 else cellOf L n + 1) else cellOf L n := by
  have hs := cntC_succ L n h
  unfold cellOf
  have hlt : cntC L n % L.countP lC < L.countP lC := Nat.mod_lt _ hC
  cases hc : lC (L[n]?.getD 0)
  · rw [hc] at hs
    rw [if_neg (by simp), show cntC L (n + 1) = cntC L n from by simpa [b1] using hs]
  · rw [hc] at hs
    rw [if_pos rfl, show cntC L (n + 1) = cntC L n + 1 from by simpa [b1] using hs, Nat.add_mod]
    by_cases h1 : cntC L n % L.countP lC + 1 = L.countP lC
    · rw [if_pos h1]
      by_cases hC1 : L.countP lC = 1
      · rw [hC1]; omega
      · rw [Nat.mod_eq_of_lt (show 1 < L.countP lC by omega), h1, Nat.mod_self]
    · rw [if_neg h1]
      by_cases hC1 : L.countP lC = 1
      · rw [hC1] at h1 hlt; omega
      · rw [Nat.mod_eq_of_lt (show 1 < L.countP lC by omega), Nat.mod_eq_of_lt (by omega)]
theorem turn_mod (l : List Nat) (k : Nat) (h : k ≤ l.length) : turn l (k % l.length) = turn l k := by
  by_cases hk : k = l.length
  · rw [hk, Nat.mod_self, turn_zero, turn_eq l _ (Nat.le_refl _)]; simp
  · rw [Nat.mod_eq_of_lt (by omega)]

/-- an instruction as four numbers -/
def q4I (x : RIns) : Q4 := ⟨x.op, x.reg, x.cell, x.val⟩
def q4C (x : RCl) : Q4 := ⟨x.thr, x.reg, x.cell, x.val⟩

end Go.Proofs.YtokfiflflcfidabDoor
