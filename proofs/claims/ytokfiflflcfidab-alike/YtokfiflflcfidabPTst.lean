import Derived.Test.YtokfiflflcfidabRows
import Derived.Test.YtokfiflflcfidabMemQ
import Derived.ProofKit
import Derived.OpenShut
import Derived.Deep.Frames
import Derived.Deep.Slices
import Derived.Deep.Strs
import Derived.Lib.SmallJoins
import Derived.WideKeyArgs
import Derived.SizedLaws
namespace Go.Proofs.Ytokfiflflcfidab
open Go.ChangeShapes Go.WideShapes Go.ChangeAt Go.RowKit Go.Deep Go.Joins

theorem Try.cellsInt' : Try.prog.cellsOf 3 = 1 := by kernel_rfl
theorem Try.cellsRIns : Try.prog.cellsOf 44 = 4 := by kernel_rfl
theorem Try.cellsRClaim : Try.prog.cellsOf 55 = 4 := by kernel_rfl

section
variable {H : Type} {enc : TypeId × Value → H} {W : World} {base : Nat} {spare : Nat → Bool} {held : Bool} {fuel : Nat} {cs : List Value} {x : DataW H × List MemPlace}

set_option maxRecDepth 100000 in
theorem open_ins (h : DataW.trod enc Try.prog W base spare held fuel 44 cs = some x) : ∃ q : Q4, cs = cells4 q ∧ x.2 = [] := by
  obtain ⟨y0, y1, y2, y3, n, rfl, hl, h0, h1, h2, h3⟩ := trod_struct4 Try.underlying44 h
  rw [Try.cellsRIns] at hl
  match cs, hl with
  | [c0, c1, c2, c3], _ =>
    simp only [Try.cellsInt', List.drop, List.take] at h0 h1 h2 h3
    obtain ⟨a, ha, hya, _⟩ := DataW.trod_int Try.underlying3 h0
    obtain ⟨b, hb, hyb, _⟩ := DataW.trod_int Try.underlying3 h1
    obtain ⟨c, hc, hyc, _⟩ := DataW.trod_int Try.underlying3 h2
    obtain ⟨d, hd, hyd, _⟩ := DataW.trod_int Try.underlying3 h3
    simp only [List.cons.injEq, and_true] at ha hb hc hd
    subst ha hb hc hd hya hyb hyc hyd
    exact ⟨⟨a, b, c, d⟩, rfl, rfl⟩
set_option maxRecDepth 100000 in
theorem open_claim (h : DataW.trod enc Try.prog W base spare held fuel 55 cs = some x) : ∃ q : Q4, cs = cells4 q ∧ x.2 = [] := by
  obtain ⟨y0, y1, y2, y3, n, rfl, hl, h0, h1, h2, h3⟩ := trod_struct4 Try.underlying55 h
  rw [Try.cellsRClaim] at hl
  match cs, hl with
  | [c0, c1, c2, c3], _ =>
    simp only [Try.cellsInt', List.drop, List.take] at h0 h1 h2 h3
    obtain ⟨a, ha, hya, _⟩ := DataW.trod_int Try.underlying3 h0
    obtain ⟨b, hb, hyb, _⟩ := DataW.trod_int Try.underlying3 h1
    obtain ⟨c, hc, hyc, _⟩ := DataW.trod_int Try.underlying3 h2
    obtain ⟨d, hd, hyd, _⟩ := DataW.trod_int Try.underlying3 h3
    simp only [List.cons.injEq, and_true] at ha hb hc hd
    subst ha hb hc hd hya hyb hyc hyd
    exact ⟨⟨a, b, c, d⟩, rfl, rfl⟩

instance : Inhabited Q4 := ⟨q0⟩
theorem addr_plus (b o : Nat) (j : Nat) : (⟨b, o, none⟩ : Addr).add j = ⟨b, o + j, none⟩ := by unfold Addr.add; split <;> simp_all

theorem weights_all {P : Program} {e : TypeId} {l : List (DataW H)} {d : DataW H} {n : Nat} (hd : d ∈ l) (hn : n ∈ d.weights P e) : n ∈ DataW.weightsAll P e l := by
  induction l with
  | nil => cases hd
  | cons y r ih =>
    simp only [DataW.weightsAll, List.mem_append]
    rcases List.mem_cons.1 hd with rfl | h
    · exact Or.inl hn
    · exact Or.inr (ih h)
theorem Try.bytesRIns : Try.prog.bytesOf 44 = 32 := by kernel_rfl
theorem Try.bytesRClaim : Try.prog.bytesOf 55 = 32 := by kernel_rfl
theorem Try.bytesRInss : Try.prog.bytesOf 45 = 24 := by kernel_rfl
/-- all that is read lies within the reach -/
def Sized (P : Program) (t : TypeId) (d : DataW H) : Prop := ∀ n ∈ d.weights P t, n ≤ reachBytes

/-- a slice of structs of four numbers, opened -/
theorem open_row4 {t e : TypeId} {v : Value} (ht : Try.prog.underlying t = some (.slice e)) (hc : Try.prog.cellsOf e = 4) (hby : Try.prog.bytesOf e = 32)
    (he : ∀ {n : Nat} {cs : List Value} {x : DataW H × List MemPlace}, DataW.trod enc Try.prog W 0 spare held n e cs = some x → ∃ q : Q4, cs = cells4 q ∧ x.2 = [])
    (h : DataW.trod enc Try.prog W 0 spare held fuel t [v] = some x) : ∃ l : List Q4, Rd4 0 W.heap.size W v l ∧ (Sized Try.prog t x.1 → l.length * 32 ≤ reachBytes) ∧ ∀ y ∈ x.2, ∀ bb, y ≠ .map bb := by
  rcases open_slice ht h with ⟨hcs, rfl⟩ | ⟨a, len, cap, m, n, D, Pl, hcs, _, hl, hm, hmm, rfl, hx⟩
  · simp only [List.cons.injEq, and_true] at hcs
    subst hcs
    exact ⟨[], ⟨none, 0, rfl, fun i hi => by simp at hi⟩, fun _ => by simp, by simp⟩
  · simp only [List.cons.injEq, and_true] at hcs
    subst hcs
    rw [hc] at hx
    have hlm : len ≤ m := by rw [hmm]; split <;> omega
    obtain ⟨f, hf⟩ := choose_lt (α := Q4) (n := m) (p := fun i q => W.cells? 0 (a.add (i * 4)) 4 = some (cells4 q) ∧ Pl i = []) (fun i hi => by
      obtain ⟨cs', h1, h2⟩ := hx i hi
      obtain ⟨q, rfl, hq⟩ := he h2
      exact ⟨q, h1, hq⟩)
    have hpl : ∀ y ∈ MemPlace.row a (m * Try.prog.cellsOf e) ++ (List.range m).flatMap Pl, ∀ bb, y ≠ .map bb := by
      intro y hy bb
      rcases List.mem_append.1 hy with hy | hy
      · obtain ⟨j, _, rfl⟩ := MemPlace.mem_row.1 hy
        intro e; cases e
      · obtain ⟨k, hk, hy⟩ := List.mem_flatMap.1 hy
        rw [(hf k (List.mem_range.1 hk)).2] at hy
        cases hy
    refine ⟨(List.range len).map f, ⟨some a, cap, by simp, fun i hi => ?_⟩, fun hz => ?_, hpl⟩
    rotate_left
    · have := hz ((len + (m - len)) * 32) (by simp [DataW.weights, ht, hby])
      simp only [List.length_map, List.length_range]
      omega
    simp only [List.length_map, List.length_range] at hi
    have h0 := (World.cells?_some (hf 0 (by omega)).1).2.2 0 (by omega)
    obtain ⟨b, o, spot⟩ := a
    have hspot : spot = none := by
      have h00 : W.cell? (⟨b, o, spot⟩ : Addr) = some (.int .i64 (f 0).a) := by simpa [Addr.add, cells4] using h0
      exact World.cell?_spot h00
    subst hspot
    have hi4 := (World.cells?_some (hf i (by omega)).1).2.2
    have hg : ((List.range len).map f)[i]?.getD q0 = f i := by simp [hi]
    rw [hg]
    simp only [addr_plus] at hi4
    have g0 := hi4 0 (by omega)
    have g1 := hi4 1 (by omega)
    have g2 := hi4 2 (by omega)
    have g3 := hi4 3 (by omega)
    simp only [cells4, Nat.add_zero] at g0 g1 g2 g3
    exact ⟨b, o, rfl, Nat.zero_le _, World.block_lt_of_cell? W _ g0, g0, g1, g2, g3⟩

theorem Try.cellsRInss : Try.prog.cellsOf 45 = 1 := by kernel_rfl
theorem Try.cellsRInsss : Try.prog.cellsOf 22 = 1 := by kernel_rfl
theorem Try.cellsRClaims : Try.prog.cellsOf 23 = 1 := by kernel_rfl
theorem Try.cellsStr : Try.prog.cellsOf 9 = 1 := by kernel_rfl
theorem Try.cellsRTest : Try.prog.cellsOf 25 = 3 := by kernel_rfl

/-- the code of a test, opened -/
theorem open_code {v : Value} (h : DataW.trod enc Try.prog W 0 spare held fuel 22 [v] = some x) :
    ∃ c : List (List Q4), Rd44 0 W.heap.size W v c ∧ (Sized Try.prog 22 x.1 → c.length * 24 ≤ reachBytes ∧ ∀ k : Nat, (c[k]?.getD []).length * 32 ≤ reachBytes) ∧ ∀ y ∈ x.2, ∀ bb, y ≠ .map bb := by
  rcases open_slice1 Try.underlying22 Try.cellsRInss h with ⟨hcs, rfl⟩ | ⟨a, len, cap, m, n, V, D, Pl, hcs, _, hl, hm, hmm, rfl, hx⟩
  · simp only [List.cons.injEq, and_true] at hcs
    subst hcs
    exact ⟨[], ⟨none, 0, rfl, fun i hi => by simp at hi⟩, fun _ => ⟨by simp, by simp⟩, by simp⟩
  · simp only [List.cons.injEq, and_true] at hcs
    subst hcs
    have hlm : len ≤ m := by rw [hmm]; split <;> omega
    obtain ⟨f, hf⟩ := choose_lt (α := List Q4) (n := m) (p := fun i l => Rd4 0 W.heap.size W (V i) l ∧ (Sized Try.prog 45 (D i) → l.length * 32 ≤ reachBytes) ∧ ∀ y ∈ Pl i, ∀ bb, y ≠ .map bb) (fun i hi => open_row4 Try.underlying45 Try.cellsRIns Try.bytesRIns open_ins (hx i hi).2)
    refine ⟨(List.range len).map f, ⟨some a, cap, by simp, fun i hi => ?_⟩, fun hz => ⟨?_, fun k => ?_⟩, ?_⟩
    · simp only [List.length_map, List.length_range] at hi
      have h0 := (hx 0 (by omega)).1
      obtain ⟨b, o, spot⟩ := a
      have hspot : spot = none := World.cell?_spot (by simpa [Addr.add] using h0)
      subst hspot
      have hg : ((List.range len).map f)[i]?.getD [] = f i := by simp [hi]
      rw [hg]
      have hi' := (hx i (by omega)).1
      rw [addr_plus] at hi'
      exact ⟨b, o, V i, rfl, Nat.zero_le _, World.block_lt_of_cell? W _ hi', hi', (hf i (by omega)).1⟩
    · have := hz ((len + (m - len)) * 24) (by simp [DataW.weights, Try.underlying22, Try.bytesRInss])
      simp only [List.length_map, List.length_range]
      omega
    · by_cases hk : k < len
      · have hg : ((List.range len).map f)[k]?.getD [] = f k := by simp [hk]
        rw [hg]
        refine (hf k (by omega)).2.1 fun n hn => hz n ?_
        simp only [DataW.weights, Try.underlying22, List.mem_cons, List.mem_append]
        exact Or.inr (Or.inl (weights_all (List.mem_map.2 ⟨k, List.mem_range.2 hk, rfl⟩) hn))
      · simp [hk]
    · intro y hy bb
      rcases List.mem_append.1 hy with hy | hy
      · obtain ⟨j, _, rfl⟩ := MemPlace.mem_row.1 hy
        intro e; cases e
      · obtain ⟨k, hk, hy⟩ := List.mem_flatMap.1 hy
        exact (hf k (List.mem_range.1 hk)).2.2 y hy bb

set_option maxRecDepth 100000 in
/-- a test, opened -/
theorem open_test (h : DataW.trod enc Try.prog W 0 spare held fuel 25 cs = some x) :
    ∃ (nv : ByteArray) (cv wv : Value) (code : List (List Q4)) (want : List Q4), cs = [.string nv, cv, wv] ∧ nv.size ≤ 9223372036854775807 ∧ Rd44 0 W.heap.size W cv code ∧ Rd4 0 W.heap.size W wv want ∧ (Sized Try.prog 25 x.1 → code.length * 24 ≤ reachBytes ∧ (∀ k : Nat, (code[k]?.getD []).length * 32 ≤ reachBytes) ∧ want.length * 32 ≤ reachBytes) ∧ ∀ y ∈ x.2, ∀ bb, y ≠ .map bb := by
  obtain ⟨y0, y1, y2, n, rfl, hl, h0, h1, h2⟩ := trod_struct3 Try.underlying25 h
  rw [Try.cellsRTest] at hl
  match cs, hl with
  | [c0, c1, c2], _ =>
    simp only [Try.cellsStr, Try.cellsRInsss, Try.cellsRClaims, List.drop, List.take] at h0 h1 h2
    obtain ⟨s, hs, hys, hw⟩ := DataW.trod_string Try.underlying9 h0
    obtain ⟨code, hC, hC1, hC3⟩ := open_code h1
    obtain ⟨want, hW, hW1, hW2⟩ := open_row4 Try.underlying23 Try.cellsRClaim Try.bytesRClaim open_claim h2
    simp only [List.cons.injEq, and_true] at hs
    subst hs hys
    refine ⟨s, c1, c2, code, want, rfl, ?_, hC, hW, fun hz => ?_, ?_⟩
    · unfold maxLen at hw; omega
    · have z1 : Sized Try.prog 22 y1.1 := fun n hn => hz n (by
        simp only [DataW.weights, Try.underlying25]
        exact DataW.weights_mem_each (j := 1) rfl rfl n hn)
      have z2 : Sized Try.prog 23 y2.1 := fun n hn => hz n (by
        simp only [DataW.weights, Try.underlying25]
        exact DataW.weights_mem_each (j := 2) rfl rfl n hn)
      exact ⟨(hC1 z1).1, (hC1 z1).2, hW1 z2⟩
    · intro y hy bb
      simp only [List.nil_append, List.mem_append] at hy
      rcases hy with hy | hy
      · exact hC3 y hy bb
      · exact hW2 y hy bb
end

end Go.Proofs.Ytokfiflflcfidab
