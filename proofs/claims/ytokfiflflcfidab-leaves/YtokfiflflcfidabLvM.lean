import Derived.Test.YtokfiflflcfidabZInt
import Derived.Test.YtokfiflflcfidabPPz
import Derived.Test.YtokfiflflcfidabSndT
import Derived.Test.YtokfiflflcfidabMachM
namespace Go.Proofs.Ytokfiflflcfidab
open Go.RowKit

/-- a slice of script numbers that lies below B -/
def ScrB (B : Nat) (w : World) (v : Value) (l : List Int) : Prop :=
  ∃ a cap, v = .slice a l.length cap ∧ ∀ i, i < l.length → ∃ b off, a = some ⟨b, off, none⟩ ∧ b < B ∧ w.cell? ⟨b, off + i, none⟩ = some (.int .i64 (l[i]?.getD 0)) ∧ (-9223372036854775808 ≤ l[i]?.getD 0 ∧ l[i]?.getD 0 ≤ 9223372036854775807)
theorem ScrRd.toB {w : World} {v : Value} {l : List Int} (h : ScrRd w v l) : ScrB w.heap.size w v l := h
theorem ScrB.rd {B : Nat} {w : World} {v : Value} {l : List Int} (h : ScrB B w v l) (hB : B ≤ w.heap.size) : ScrRd w v l := by
  obtain ⟨a, cap, rfl, h1⟩ := h
  refine ⟨a, cap, rfl, fun i hi => ?_⟩
  obtain ⟨b, off, e, h2, h3⟩ := h1 i hi
  exact ⟨b, off, e, by omega, h3⟩
theorem ScrB.kept {B : Nat} {w w' : World} {v : Value} {l : List Int} (h : ScrB B w v l) (hb : Below B w w') : ScrB B w' v l := by
  obtain ⟨a, cap, rfl, h1⟩ := h
  refine ⟨a, cap, rfl, fun i hi => ?_⟩
  obtain ⟨b, off, e, h2, h3, h4⟩ := h1 i hi
  exact ⟨b, off, e, h2, (hb.cell (p := ⟨b, _, none⟩) h2).trans h3, h4⟩

/-- what lasts through Leaves: all of it lies below B -/
structure LInv (TT TU B : Nat) (w wr : World) (nv : ByteArray) (cv wv : Value) (ub : Nat) (cv' wv' : Value) (code : List (List Q4)) (want : List Q4) (lv : Value) (script : List Int) : Prop where
  below : Below w.heap.size w wr
  hB : B ≤ wr.heap.size
  tB : w.heap.size < B
  t : wr.heap[w.heap.size]? = some (.cells #[.string nv, cv, wv] TT (0, 0))
  uB : ub < B
  u : wr.heap[ub]? = some (.cells #[.string nv, cv', wv'] TU (0, 0))
  C : Rd44 0 ub wr cv' code
  W : Rd4 0 ub wr wv' want
  L : ScrB B wr lv script
theorem LInv.keptB {TT TU B : Nat} {w wr w' : World} {nv : ByteArray} {cv wv : Value} {ub : Nat} {cv' wv' : Value} {code : List (List Q4)} {want : List Q4} {lv : Value} {script : List Int} (h : LInv TT TU B w wr nv cv wv ub cv' wv' code want lv script) (hb : Below B wr w') : LInv TT TU B w w' nv cv wv ub cv' wv' code want lv script where
  below := h.below.trans (hb.mono (Nat.le_of_lt h.tB))
  hB := Nat.le_trans h.hB hb.size
  tB := h.tB
  t := (hb.block _ h.tB).trans h.t
  uB := h.uB
  u := (hb.block _ h.uB).trans h.u
  C := Rd44.span h.C (Span.of_below hb (Nat.le_of_lt h.uB))
  W := Rd4.span h.W (Span.of_below hb (Nat.le_of_lt h.uB))
  L := h.L.kept hb
theorem LInv.kept {TT TU B : Nat} {w wr w' : World} {nv : ByteArray} {cv wv : Value} {ub : Nat} {cv' wv' : Value} {code : List (List Q4)} {want : List Q4} {lv : Value} {script : List Int} (h : LInv TT TU B w wr nv cv wv ub cv' wv' code want lv script) (hb : Below wr.heap.size wr w') : LInv TT TU B w w' nv cv wv ub cv' wv' code want lv script := h.keptB (hb.mono h.hB)
theorem LInv.tc {TT TU B : Nat} {w wr : World} {nv : ByteArray} {cv wv : Value} {ub : Nat} {cv' wv' : Value} {code : List (List Q4)} {want : List Q4} {lv : Value} {script : List Int} (h : LInv TT TU B w wr nv cv wv ub cv' wv' code want lv script) :
    wr.cell? ⟨w.heap.size, 0, none⟩ = some (.string nv) ∧ wr.cell? ⟨w.heap.size, 1, none⟩ = some cv ∧ wr.cell? ⟨w.heap.size, 2, none⟩ = some wv ∧ w.heap.size < wr.heap.size := by
  refine ⟨?_, ?_, ?_, Nat.lt_of_lt_of_le h.tB h.hB⟩ <;> rw [cell_of_row _ _ _ _ _ _ h.t] <;> rfl
theorem LInv.uc {TT TU B : Nat} {w wr : World} {nv : ByteArray} {cv wv : Value} {ub : Nat} {cv' wv' : Value} {code : List (List Q4)} {want : List Q4} {lv : Value} {script : List Int} (h : LInv TT TU B w wr nv cv wv ub cv' wv' code want lv script) :
    wr.cell? ⟨ub, 0, none⟩ = some (.string nv) ∧ wr.cell? ⟨ub, 1, none⟩ = some cv' ∧ wr.cell? ⟨ub, 2, none⟩ = some wv' ∧ ub < wr.heap.size := by
  refine ⟨?_, ?_, ?_, Nat.lt_of_lt_of_le h.uB h.hB⟩ <;> rw [cell_of_row _ _ _ _ _ _ h.u] <;> rfl
theorem LInv.ubs {TT TU B : Nat} {w wr : World} {nv : ByteArray} {cv wv : Value} {ub : Nat} {cv' wv' : Value} {code : List (List Q4)} {want : List Q4} {lv : Value} {script : List Int} (h : LInv TT TU B w wr nv cv wv ub cv' wv' code want lv script) : ub ≤ wr.heap.size := Nat.le_of_lt (Nat.lt_of_lt_of_le h.uB h.hB)

/-- the cells of a slice may be written; its block lies in [a0, a1) -/
def ACel (T a0 a1 : Nat) (w : World) (aa : Option Addr) (n : Nat) : Prop := ∀ i, i < n → ∃ g, aa = some ⟨g, 0, none⟩ ∧ a0 ≤ g ∧ g < a1 ∧ Blk w g T ∧ ∃ z, w.cell? ⟨g, i, none⟩ = some z
theorem Own.acel {w : World} {base T : Nat} {aa : Option Addr} {n ac : Nat} {l : List Nat} (h : Own w base T (.slice aa n ac) l) : ACel T base w.heap.size w aa n := by
  intro i hi
  have h' : w.ownsRow base T 1 (.slice aa n ac) l.length (nums l) := h
  rcases h.2 with ⟨e, hn⟩ | ⟨g, cap, cur, e, hbg, hgg, hcap, _⟩
  · injection e with e1 e2 e3
    omega
  · injection e with e1 e2 e3
    subst e1
    refine ⟨g, rfl, hbg, (Array.getElem?_eq_some_iff.1 hgg).1, ⟨_, hgg⟩, ?_⟩
    have hil : i < l.length := by omega
    have := h'.cells (g := g) rfl i (.int .i64 ((l[i]?.getD 0 : Nat) : Int)) (by simp [nums, hil])
    have hadd : (⟨g, 0, none⟩ : Addr).add i = ⟨g, 0 + i, none⟩ := by unfold Addr.add; split <;> simp_all
    rw [hadd, Nat.zero_add] at this
    exact ⟨_, this⟩
theorem ACel.kept {T a0 a1 : Nat} {w w' : World} {aa : Option Addr} {n : Nat} (h : ACel T a0 a1 w aa n) (hb : Below w.heap.size w w') (h1 : a1 ≤ w.heap.size) : ACel T a0 a1 w' aa n := by
  intro i hi
  obtain ⟨g, e, k1, k2, k3, z, k4⟩ := h i hi
  exact ⟨g, e, k1, k2, k3.kept hb, z, (hb.cell (p := ⟨g, i, none⟩) (show g < w.heap.size by omega)).trans k4⟩
theorem ACel.set {T a0 a1 : Nat} {w : World} {aa : Option Addr} {n : Nat} (h : ACel T a0 a1 w aa n) (g o : Nat) (u : Value) : ACel T a0 a1 (w.setCell ⟨g, o, none⟩ u) aa n := by
  intro i hi
  obtain ⟨b, e, k1, k2, k3, z, k4⟩ := h i hi
  by_cases hq : g ≠ b ∨ o ≠ i
  · exact ⟨b, e, k1, k2, k3.set g o u, z, by rw [set_ne _ hq]; exact k4⟩
  · have hg : g = b := by omega
    have ho : o = i := by omega
    subst hg ho
    exact ⟨g, e, k1, k2, k3.set g o u, u, set_eq _ k4⟩
/-- the first j cells hold -9 -/
def Nine (a1 : Nat) (w : World) (aa : Option Addr) (j : Nat) : Prop := ∀ i, i < j → ∃ g, aa = some ⟨g, 0, none⟩ ∧ g < a1 ∧ w.cell? ⟨g, i, none⟩ = some (.int .i64 (-9))
theorem Nine.kept {a1 : Nat} {w w' : World} {aa : Option Addr} {n : Nat} (h : Nine a1 w aa n) (hb : Below w.heap.size w w') (h1 : a1 ≤ w.heap.size) : Nine a1 w' aa n := by
  intro i hi
  obtain ⟨g, e, k2, k4⟩ := h i hi
  exact ⟨g, e, k2, (hb.cell (p := ⟨g, i, none⟩) (show g < w.heap.size by omega)).trans k4⟩
theorem Nine.next {a1 : Nat} {w : World} {g j : Nat} (h : Nine a1 w (some ⟨g, 0, none⟩) j) (hg : g < a1) {z : Value} (hz : w.cell? ⟨g, j, none⟩ = some z) : Nine a1 (w.setCell ⟨g, j, none⟩ (.int .i64 (-9))) (some ⟨g, 0, none⟩) (j + 1) := by
  intro i hi
  by_cases hij : i = j
  · subst hij
    exact ⟨g, rfl, hg, set_eq _ hz⟩
  · obtain ⟨b, e, k2, k4⟩ := h i (by omega)
    refine ⟨b, e, k2, ?_⟩
    rw [set_ne _ (Or.inr (fun e => hij e.symm))]
    exact k4
/-- only blocks in [a0, a1) have changed -/
def Hole (a0 a1 : Nat) (w w' : World) : Prop := Below a0 w w' ∧ w'.heap.size = w.heap.size ∧ ∀ k, a1 ≤ k → w'.heap[k]? = w.heap[k]?
theorem Hole.refl (a0 a1 : Nat) (w : World) : Hole a0 a1 w w := ⟨Below.refl _ _, rfl, fun _ _ => rfl⟩
theorem Hole.set {a0 a1 : Nat} {w w' : World} (h : Hole a0 a1 w w') {g o : Nat} (h0 : a0 ≤ g) (h1 : g < a1) (u : Value) : Hole a0 a1 w (w'.setCell ⟨g, o, none⟩ u) :=
  ⟨h.1.setCell (p := ⟨g, o, none⟩) h0 u, by simpa [World.setCell] using h.2.1, fun k hk => by rw [heap_setCell_other _ _ _ _ (by dsimp only; omega)]; exact h.2.2 k hk⟩
theorem NumR.hole {a0 a1 : Nat} {w w' : World} {v : Value} {l : List Nat} {base T : Nat} (h : Own w base T v l) (hh : Hole a0 a1 w w') (h1 : a1 ≤ base) : NumR w' v l := by
  rcases h.split with ⟨rfl, rfl⟩ | ⟨g, cap, rfl, hg, hG⟩
  · exact ⟨none, 0, rfl, fun i hi => by simp at hi⟩
  · exact ⟨_, cap, rfl, fun i hi => ⟨g, 0, rfl, by rw [hh.2.1]; exact hG.1, (World.cell?_of_block (w := w) (a := ⟨g, _, none⟩) (hh.2.2 g (by omega))).trans (hG.2 i hi)⟩⟩

end Go.Proofs.Ytokfiflflcfidab
