import Derived.Test.YtokfiflflcfidaaDoorRows
import Derived.Test.YtokfiflflcfidaaDoorChzW
import Derived.WalkKit
import Derived.WalkSpells
import Derived.WalkLawsBesides
import Derived.RegionTactic
import Derived.BigRegion
import Derived.Deep.QuietTactic
import Derived.BigQuiet
namespace Go.Proofs.YtokfiflflcfidaaDoor
open Go.RowKit

theorem wsTo_succ (l : List Ev) (i k : Nat) : wsTo l i (k + 1) = wsTo l i k ++ if isW (l[i]?.getD ev0).ce (l[k]?.getD ev0) then [k] else [] := rfl
theorem wsTo_mono (l : List Ev) (i : Nat) {k m : Nat} (h : k ≤ m) : (wsTo l i k).length ≤ (wsTo l i m).length := by
  induction m with
  | zero => have : k = 0 := by omega
            subst this; exact Nat.le_refl _
  | succ m ih =>
    by_cases hk : k = m + 1
    · subst hk; exact Nat.le_refl _
    · have := ih (by omega)
      rw [wsTo, List.length_append]; omega
theorem mineTo_succ (l : List Ev) (i k : Nat) : mineTo l i (k + 1) = mineTo l i k + if (isW (l[i]?.getD ev0).ce (l[k]?.getD ev0) && decide (k < i)) then 1 else 0 := by
  unfold mineTo
  by_cases h : k < i
  · by_cases h2 : k + 1 < i
    · rw [if_pos h2, if_pos h, wsTo, List.length_append, decide_eq_true h, Bool.and_true]; split <;> simp
    · have : k + 1 = i := by omega
      subst this
      rw [if_neg (by omega), if_pos h, wsTo, List.length_append, decide_eq_true h, Bool.and_true]; split <;> simp
  · rw [if_neg (by omega), if_neg h, decide_eq_false h, Bool.and_false]; simp
theorem mineTo_le (l : List Ev) (i k : Nat) : mineTo l i k ≤ k := by
  unfold mineTo
  have := wsTo_le l i (if k < i then k else i)
  split at this <;> split <;> omega
theorem mineTo_all (l : List Ev) (i k : Nat) (h : i ≤ k) : mineTo l i k = mineOf l i := by
  unfold mineTo mineOf; rw [if_neg (by omega)]
theorem mine_lt (l : List Ev) (i : Nat) (hi : i < l.length) (hw : (l[i]?.getD ev0).wr = true) : mineOf l i < (wsOf l i).length := by
  have h1 := wsTo_mono l i (show i + 1 ≤ l.length by omega)
  rw [wsTo, List.length_append] at h1
  have h2 : isW (l[i]?.getD ev0).ce (l[i]?.getD ev0) = true := by unfold isW; rw [hw]; simp
  rw [if_pos h2] at h1
  unfold mineOf wsOf
  simp at h1
  omega
theorem wsTo_lt (l : List Ev) (i k : Nat) : ∀ x ∈ wsTo l i k, x < k := by
  induction k with
  | zero => intro x hx; cases hx
  | succ k ih =>
    intro x hx
    rw [wsTo, List.mem_append] at hx
    rcases hx with h | h
    · have := ih x h; omega
    · split at h
      · simp at h; omega
      · cases h

/-- the answer's two cells, and the choice that is being made -/
structure CInv (T : Nat) (w wr : World) (fv pv : Value) : Prop where
  below : Below w.heap.size w wr
  sz : w.heap.size + 2 ≤ wr.heap.size
  hR : wr.heap[w.heap.size]? = some (.cells #[.slice none 0 0, .slice none 0 0] T (0, 0))
  hU : wr.heap[w.heap.size + 1]? = some (.cells #[fv, pv] T (0, 0))
theorem CInv.init (T : Nat) (w : World) : CInv T w ((w.alloc (.cells #[.slice none 0 0, .slice none 0 0] T)).alloc (.cells #[.slice none 0 0, .slice none 0 0] T)) (.slice none 0 0) (.slice none 0 0) where
  below := ((Below.refl _ _).alloc (Nat.le_refl _) _).alloc (by simp) _
  sz := by simp
  hR := (Below.heap_alloc _ _ _ (by simp)).trans (heap_alloc_new w _)
  hU := by
    have h1 := heap_alloc_new (w.alloc (.cells #[.slice none 0 0, .slice none 0 0] T)) (.cells #[.slice none 0 0, .slice none 0 0] T)
    simp only [World.size_alloc] at h1
    exact h1
section
variable {T : Nat} {w wr w' : World} {fv pv fv' pv' : Value}
theorem CInv.u0 (h : CInv T w wr fv pv) : wr.cell? ⟨w.heap.size + 1, 0, none⟩ = some fv := by rw [cell_of_row _ _ 0 _ _ _ h.hU]; rfl
theorem CInv.u1 (h : CInv T w wr fv pv) : wr.cell? ⟨w.heap.size + 1, 1, none⟩ = some pv := by rw [cell_of_row _ _ 1 _ _ _ h.hU]; rfl
theorem CInv.free (h : CInv T w wr fv pv) (o : Nat) : wr.frozen? ⟨w.heap.size + 1, o, none⟩ = false := frozen_of_row wr _ o _ T h.hU
theorem CInv.kept (h : CInv T w wr fv pv) {B : Nat} (hb : Below B wr w') (hB : w.heap.size + 2 ≤ B) : CInv T w w' fv pv where
  below := h.below.trans (hb.mono (by omega))
  sz := by have := h.sz; have := hb.size; omega
  hR := by rw [hb.block _ (by omega)]; exact h.hR
  hU := by rw [hb.block _ (by omega)]; exact h.hU
theorem CInv.grew (h : CInv T w wr fv pv) {v v' : Value} (hg : Grew wr w' v v') (hv : ∀ k, v.ownBlock = some k → w.heap.size + 2 ≤ k) : CInv T w w' fv pv where
  below := h.below.trans ⟨hg.1.os, hg.1.tape, hg.1.output, hg.size, fun k hk => hg.block (by have := h.sz; omega) (fun e => by have := hv k e; omega)⟩
  sz := by have := h.sz; have := hg.size; omega
  hR := by rw [hg.block (by have := h.sz; omega) (fun e => by have := hv _ e; omega)]; exact h.hR
  hU := by rw [hg.block (by have := h.sz; omega) (fun e => by have := hv _ e; omega)]; exact h.hU
theorem CInv.set0 (h : CInv T w wr fv pv) (u : Value) : CInv T w (wr.setCell ⟨w.heap.size + 1, 0, none⟩ u) u pv where
  below := h.below.setCell (by dsimp only; omega) u
  sz := by have := h.sz; simpa [World.setCell] using this
  hR := by rw [heap_setCell_other _ _ _ _ (by dsimp only; omega)]; exact h.hR
  hU := heap_setCell_same wr _ 0 _ _ u h.hU
theorem CInv.set1 (h : CInv T w wr fv pv) (u : Value) : CInv T w (wr.setCell ⟨w.heap.size + 1, 1, none⟩ u) fv u where
  below := h.below.setCell (by dsimp only; omega) u
  sz := by have := h.sz; simpa [World.setCell] using this
  hR := by rw [heap_setCell_other _ _ _ _ (by dsimp only; omega)]; exact h.hR
  hU := heap_setCell_same wr _ 1 _ _ u h.hU
end
/-- the choice so far: both lists, in blocks apart -/
structure CAll (T TI : Nat) (w wr : World) (fv pv : Value) (lf lp : List Int) : Prop where
  inv : CInv T w wr fv pv
  of : OwnZ wr (w.heap.size + 2) TI fv lf
  op : OwnZ wr (w.heap.size + 2) TI pv lp
  apart : ∀ k, fv.ownBlock = some k → pv.ownBlock ≠ some k
theorem CAll.kept {T TI : Nat} {w wr w' : World} {fv pv : Value} {lf lp : List Int} (h : CAll T TI w wr fv pv lf lp) (hb : Below wr.heap.size wr w') : CAll T TI w w' fv pv lf lp :=
  ⟨h.inv.kept hb h.inv.sz, ownsRow_kept h.of hb, ownsRow_kept h.op hb, h.apart⟩
theorem CAll.from_ {T TI : Nat} {w wr w1 : World} {fv pv fv' : Value} {lf lp lf' : List Int} (h : CAll T TI w wr fv pv lf lp) (hg : Grew wr w1 fv fv') (ho : OwnZ w1 (w.heap.size + 2) TI fv' lf') :
    CInv T w w1 fv pv ∧ CAll T TI w (w1.setCell ⟨w.heap.size + 1, 0, none⟩ fv') fv' pv lf' lp := by
  have hi := h.inv.grew hg (fun k hk => (World.ownsRow.lt h.of k hk).1)
  have hp : OwnZ w1 (w.heap.size + 2) TI pv lp := ownsRow_grew h.op hg (fun k hk e => h.apart k e hk)
  have hs : Span (w.heap.size + 2) w1.heap.size w1 (w1.setCell ⟨w.heap.size + 1, 0, none⟩ fv') := (Span.refl _ _ w1).set (Or.inl (by omega)) _
  refine ⟨hi, hi.set0 fv', ownsRow_span ho hs (Nat.le_refl _) (Nat.le_refl _), ownsRow_span hp hs (Nat.le_refl _) (Nat.le_refl _), fun k hk e => ?_⟩
  rcases hg.2 k hk with h1 | h1
  · exact h.apart k h1 e
  · have := (World.ownsRow.lt h.op k e).2; omega
theorem CAll.place {T TI : Nat} {w wr w1 : World} {fv pv pv' : Value} {lf lp lp' : List Int} (h : CAll T TI w wr fv pv lf lp) (hg : Grew wr w1 pv pv') (ho : OwnZ w1 (w.heap.size + 2) TI pv' lp') :
    CInv T w w1 fv pv ∧ CAll T TI w (w1.setCell ⟨w.heap.size + 1, 1, none⟩ pv') fv pv' lf lp' := by
  have hi := h.inv.grew hg (fun k hk => (World.ownsRow.lt h.op k hk).1)
  have hp : OwnZ w1 (w.heap.size + 2) TI fv lf := ownsRow_grew h.of hg (fun k hk => h.apart k hk)
  have hs : Span (w.heap.size + 2) w1.heap.size w1 (w1.setCell ⟨w.heap.size + 1, 1, none⟩ pv') := (Span.refl _ _ w1).set (Or.inl (by omega)) _
  refine ⟨hi, hi.set1 pv', ownsRow_span hp hs (Nat.le_refl _) (Nat.le_refl _), ownsRow_span ho hs (Nat.le_refl _) (Nat.le_refl _), fun k hk e => ?_⟩
  rcases hg.2 k e with h1 | h1
  · exact h.apart k hk h1
  · have := (World.ownsRow.lt h.of k hk).2; omega

end Go.Proofs.YtokfiflflcfidaaDoor
