import Derived.Test.YtokfiflflcfidabMem
import Derived.WalkKit
import Derived.WalkSpells
import Derived.ArgAppend
namespace Go.Proofs.Ytokfiflflcfidab
open Go.RowKit

/-- w' came out of w by new blocks and by appends to v, which is v' now -/
def Grew (w w' : World) (v v' : Value) : Prop := w.grownBy w' v.ownBlock ∧ ∀ k, v'.ownBlock = some k → v.ownBlock = some k ∨ w.heap.size ≤ k

theorem Grew.refl (w : World) (v : Value) : Grew w w v v := ⟨World.grownBy.refl _ _, fun _ h => Or.inl h⟩
theorem Grew.size {w w' : World} {v v' : Value} (h : Grew w w' v v') : w.heap.size ≤ w'.heap.size := h.1.size
theorem Grew.of_below {w w' : World} (v : Value) (h : Below w.heap.size w w') : Grew w w' v v :=
  ⟨⟨h.os, h.tape, h.output, h.size, fun k hk _ => h.block k hk⟩, fun _ h => Or.inl h⟩
theorem Grew.trans {w w1 w2 : World} {v v1 v2 : Value} (h : Grew w w1 v v1) (k : Grew w1 w2 v1 v2) : Grew w w2 v v2 := by
  refine ⟨⟨k.1.os.trans h.1.os, k.1.tape.trans h.1.tape, k.1.output.trans h.1.output, Nat.le_trans h.1.size k.1.size, fun i hi hne => ?_⟩, fun i hi => ?_⟩
  · rw [← h.1.block i hi hne]
    refine k.1.block i (Nat.lt_of_lt_of_le hi h.1.size) fun e => ?_
    rcases h.2 i e.symm with h1 | h1
    · exact hne h1.symm
    · omega
  · rcases k.2 i hi with h1 | h1
    · exact h.2 i h1
    · exact Or.inr (Nat.le_trans h.1.size h1)
/-- what lies in no block of v's is as it was -/
theorem Grew.block {w w' : World} {v v' : Value} (h : Grew w w' v v') {k : Nat} (hk : k < w.heap.size) (hne : v.ownBlock ≠ some k) : w'.heap[k]? = w.heap[k]? := h.1.block k hk fun e => hne e.symm
theorem Grew.off {w w' : World} {v v' : Value} (h : Grew w w' v v') {k : Nat} (hk : k < w.heap.size) (hne : v.ownBlock ≠ some k) : v'.ownBlock ≠ some k := by
  intro e
  rcases h.2 k e with h1 | h1
  · exact hne h1
  · omega
theorem Grew.arr {w w' : World} {v v' : Value} (h : Grew w w' v v') {b off : Nat} {l : List Nat} (hA : Arr w b off l) (hne : v.ownBlock ≠ some b) : Arr w' b off l :=
  ⟨Nat.lt_of_lt_of_le hA.1 h.size, fun k hk => (World.cell?_of_block (w := w) (a := ⟨b, off + k, none⟩) (h.block hA.1 hne)).trans (hA.2 k hk)⟩
theorem Grew.below {w0 w w' : World} {base T size n : Nat} {v v' : Value} {xs : List Value} (h : Grew w w' v v') (hb : Below base w0 w) (hB : base ≤ w.heap.size) (hown : w.ownsRow base T size v n xs) : Below base w0 w' :=
  hb.grown h.1 hB fun k hk => (hown.lt k hk).1

theorem ownsRow_rebase {w : World} {base base' T size n : Nat} {v : Value} {xs : List Value} (h : w.ownsRow base T size v n xs) (hb : base' ≤ base) : w.ownsRow base' T size v n xs := by
  refine ⟨h.1, ?_⟩
  rcases h.2 with hn | ⟨g, cap, cur, rfl, hbg, rest⟩
  · exact .inl hn
  · exact .inr ⟨g, cap, cur, rfl, by omega, rest⟩

/-- 'l = append(l, u)', and where l lies then -/
theorem wpList_pushG {P : Program} {wr : World} {ops : Array Oper} {rest : List Oper} {o : Oper} {a : Act} {Q : Exit → Act → World → Prop} (hgd : o.guard = none) (s x : Operand) (t : TypeId)
    (ho : o.op = .call { callee := .builtin .append, args := #[s, x], argTypes := #[t, t] })
    (base : Nat) (T : TypeId) (z : Value) (bytes : Nat) (ht : P.underlying t = some (.slice T)) (hinfo : (P.info? T).map (fun i => (i.zero, i.size, i.bytes)) = some (some z, 1, bytes)) (hz : z.cells.size = 1)
    (v : Value) (xs : List Value) (u : Value) (hu : u.oneCell' = true) (hs : a.eval s = v) (hx : a.eval x = .slice (some ⟨wr.heap.size, 0, none⟩) 1 1)
    (hown : wr.ownsRow base T 1 v xs.length xs) (hlen : (xs.length + 1) * bytes ≤ 140737488355328) (hmax : xs.length + 1 ≤ maxLen) (hbase : base ≤ wr.heap.size)
    (h : ∀ v' w', w'.ownsRow base T 1 v' (xs ++ [u]).length (xs ++ [u]) → Grew wr w' v v' → wpList P ops Q rest (a.put o.dst v') w') :
    wpList P ops Q (o :: rest) a (wr.alloc (.cells #[u] T)) := by
  obtain ⟨i0, hi, hz0, hz1, hz2⟩ := info_parts hinfo
  have h1c : ∀ y ∈ [u], y.oneCell' = true := by intro y hy; simp at hy; subst hy; exact hu
  have hga : Grew wr (wr.alloc (.cells #[u] T)) v v := ⟨World.grownBy_alloc _ _ _, fun _ h => Or.inl h⟩
  rcases hown.2 with ⟨hv, hn⟩ | ⟨g, cap, cur, hv, hbg, hgg, hnc, _⟩
  · have hxs : xs = [] := List.eq_nil_of_length_eq_zero hn
    subst hv
    subst hxs
    refine wpList_append_own _ hgd s x t ho (wr.alloc (.cells #[u] T)).heap.size T i0 z 1 bytes ht hi hz0 hz1 hz2 hz (by decide) _ 0 [] hs (World.ownsRow_nil _ _ _ _) ⟨wr.heap.size, 0, none⟩ 1 1 [u] hx rfl (one_new wr T u) h1c hmax hlen (Nat.le_refl _) ?_
    intro v' w' h1 h2 _
    refine h v' w' (by simpa using ownsRow_rebase h1 (by simp; omega)) (hga.trans ⟨h2, fun k hk => Or.inr (h1.lt k hk).1⟩)
  · subst hv
    by_cases hroom : xs.length + 1 ≤ cap
    · refine wpList_append_fits _ hgd s x t ho base T i0 1 ht hi hz1 g xs.length cap xs hs (hown.alloc _) ⟨wr.heap.size, 0, none⟩ 1 1 [u] hx rfl (one_new wr T u) h1c hroom ?_
      intro w' h1 h2
      exact h _ w' (by simpa using h1) (hga.trans ⟨h2, fun k hk => Or.inl hk⟩)
    · refine wpList_append_grows _ hgd s x t ho T i0 z 1 bytes ht hi hz0 hz1 hz2 hz (by decide) (some ⟨g, 0, none⟩) xs.length cap xs hs (fun e => by cases e) (by simp) ?_ ⟨wr.heap.size, 0, none⟩ 1 1 [u] hx rfl (one_new wr T u) h1c (by omega) hmax hlen ?_
      · intro b hb j y hy
        cases hb
        exact (hown.alloc _).cells (g := g) rfl j y hy
      · intro v' w' h1 h2
        refine h v' w' (by simpa using ownsRow_rebase h1 (by simp; omega)) (hga.trans ⟨⟨h2.os, h2.tape, h2.output, h2.size, fun k hk _ => h2.block k hk (by simp)⟩, fun k hk => Or.inr (h1.lt k hk).1⟩)

/-- v owns the texts l -/
def textsV (l : List (List UInt8)) : List Value := l.map fun t => Value.string ⟨t.toArray⟩
def OwnS (w : World) (base T : Nat) (v : Value) (l : List (List UInt8)) : Prop := w.ownsRow base T 1 v (textsV l).length (textsV l)
theorem OwnS.nil (w : World) (base T : Nat) : OwnS w base T (.slice none 0 0) [] := World.ownsRow_nil w base T 1
theorem textsV_length (l : List (List UInt8)) : (textsV l).length = l.length := by simp [textsV]
theorem OwnS.kept {w w' : World} {base T : Nat} {v : Value} {l : List (List UInt8)} (h : OwnS w base T v l) (hb : Below w.heap.size w w') : OwnS w' base T v l := ownsRow_kept h hb
theorem OwnS.lenV {w : World} {base T : Nat} {v : Value} {l : List (List UInt8)} (h : OwnS w base T v l) : ∃ a c, v = .slice a l.length c := by
  rcases h.2 with ⟨rfl, hn⟩ | ⟨g, cap, cur, rfl, _⟩
  · rw [textsV_length] at hn; exact ⟨none, 0, by rw [hn]⟩
  · exact ⟨_, _, by rw [textsV_length]⟩

/-- 'out = append(out, t)' -/
theorem wpList_pushS {P : Program} {wr : World} {ops : Array Oper} {rest : List Oper} {o : Oper} {a : Act} {Q : Exit → Act → World → Prop} (hgd : o.guard = none) (s x : Operand) (t : TypeId)
    (ho : o.op = .call { callee := .builtin .append, args := #[s, x], argTypes := #[t, t] })
    (base : Nat) (T : TypeId) (ht : P.underlying t = some (.slice T)) (hinfo : (P.info? T).map (fun i => (i.zero, i.size, i.bytes)) = some (some (.string ⟨#[]⟩), 1, 16))
    (v : Value) (l : List (List UInt8)) (u : List UInt8) (hs : a.eval s = v) (hx : a.eval x = .slice (some ⟨wr.heap.size, 0, none⟩) 1 1)
    (hown : OwnS wr base T v l) (hlen : l.length ≤ 1000000000) (hbase : base ≤ wr.heap.size)
    (h : ∀ v' w', OwnS w' base T v' (l ++ [u]) → Grew wr w' v v' → wpList P ops Q rest (a.put o.dst v') w') :
    wpList P ops Q (o :: rest) a (wr.alloc (.cells #[.string ⟨u.toArray⟩] T)) := by
  refine wpList_pushG hgd s x t ho base T (.string ⟨#[]⟩) 16 ht hinfo rfl v (textsV l) (.string ⟨u.toArray⟩) rfl hs hx hown ?_ ?_ hbase ?_
  · rw [textsV_length]; omega
  · rw [textsV_length]; unfold maxLen; omega
  · intro v' w' h1 h2
    refine h v' w' ?_ h2
    have e1 : textsV l ++ [.string ⟨u.toArray⟩] = textsV (l ++ [u]) := by simp [textsV]
    rw [e1] at h1
    exact h1

/-- v owns the lists hs, each in a block of its own -/
def OwnH (w : World) (base T : Nat) (v : Value) (hs : List (List Nat)) : Prop :=
  ∃ cells : List Value, w.ownsRow base T 1 v cells.length cells ∧ cells.length = hs.length ∧
    ∀ i, i < hs.length → ∃ g c, cells[i]? = some (.slice (some ⟨g, 0, none⟩) (hs[i]?.getD []).length c) ∧ base ≤ g ∧ v.ownBlock ≠ some g ∧ Arr w g 0 (hs[i]?.getD [])
theorem OwnH.nil (w : World) (base T : Nat) : OwnH w base T (.slice none 0 0) [] := ⟨[], World.ownsRow_nil w base T 1, rfl, fun i hi => absurd hi (by simp)⟩
theorem OwnH.kept {w w' : World} {base T : Nat} {v : Value} {hs : List (List Nat)} (h : OwnH w base T v hs) (hb : Below w.heap.size w w') : OwnH w' base T v hs := by
  obtain ⟨cells, h1, h2, h3⟩ := h
  refine ⟨cells, ownsRow_kept h1 hb, h2, fun i hi => ?_⟩
  obtain ⟨g, c, e1, e2, e3, e4⟩ := h3 i hi
  exact ⟨g, c, e1, e2, e3, e4.kept hb⟩

theorem OwnH.off {w : World} {base T : Nat} {v : Value} {hs : List (List Nat)} (h : OwnH w base T v hs) {g : Nat} (hg : w.heap.size ≤ g) : v.ownBlock ≠ some g := by
  intro e
  obtain ⟨cells, h1, _⟩ := h
  have := (h1.lt _ e).2
  omega
theorem OwnH.below {w0 w w' : World} {base T : Nat} {v v' : Value} {hs : List (List Nat)} (h : OwnH w base T v hs) (hg : Grew w w' v v') (hb : Below base w0 w) (hB : base ≤ w.heap.size) : Below base w0 w' := by
  obtain ⟨cells, h1, _⟩ := h
  exact hg.below hb hB h1

/-- 'list = append(list, l)' -/
theorem wpList_pushH {P : Program} {wr : World} {ops : Array Oper} {rest : List Oper} {o : Oper} {a : Act} {Q : Exit → Act → World → Prop} (hgd : o.guard = none) (s x : Operand) (t : TypeId)
    (ho : o.op = .call { callee := .builtin .append, args := #[s, x], argTypes := #[t, t] })
    (base : Nat) (T : TypeId) (ht : P.underlying t = some (.slice T)) (hinfo : (P.info? T).map (fun i => (i.zero, i.size, i.bytes)) = some (some (.slice none 0 0), 1, 24))
    (v : Value) (hs' : List (List Nat)) (l : List Nat) (g c : Nat) (hs : a.eval s = v) (hx : a.eval x = .slice (some ⟨wr.heap.size, 0, none⟩) 1 1)
    (hown : OwnH wr base T v hs') (hl : Arr wr g 0 l) (hg : base ≤ g) (hne : v.ownBlock ≠ some g) (hlen : hs'.length ≤ 1000000000) (hbase : base ≤ wr.heap.size)
    (h : ∀ v' w', OwnH w' base T v' (hs' ++ [l]) → Grew wr w' v v' → wpList P ops Q rest (a.put o.dst v') w') :
    wpList P ops Q (o :: rest) a (wr.alloc (.cells #[.slice (some ⟨g, 0, none⟩) l.length c] T)) := by
  obtain ⟨cells, h1, h2, h3⟩ := hown
  refine wpList_pushG hgd s x t ho base T (.slice none 0 0) 24 ht hinfo rfl v cells (.slice (some ⟨g, 0, none⟩) l.length c) rfl hs hx h1 (by rw [h2]; omega) (by rw [h2]; unfold maxLen; omega) hbase ?_
  intro v' w' k1 k2
  refine h v' w' ⟨_, k1, by simp [h2], fun i hi => ?_⟩ k2
  by_cases hil : i < hs'.length
  · obtain ⟨g', c', e1, e2, e3, e4⟩ := h3 i hil
    have e5 : (hs' ++ [l])[i]?.getD [] = hs'[i]?.getD [] := by rw [List.getElem?_append_left hil]
    rw [e5]
    exact ⟨g', c', by rw [List.getElem?_append_left (by omega)]; exact e1, e2, k2.off e4.1 e3, k2.arr e4 e3⟩
  · have hie : i = hs'.length := by simp at hi; omega
    have e5 : (hs' ++ [l])[i]?.getD [] = l := by rw [hie]; simp
    rw [e5]
    exact ⟨g, c, by rw [hie, ← h2]; simp, hg, k2.off hl.1 hne, k2.arr hl hne⟩

/-- reading a slice of slices, none of its blocks the one of v0 -/
def RdH (w : World) (v0 v : Value) (hs : List (List Nat)) : Prop :=
  ∃ g cap, v = .slice (some ⟨g, 0, none⟩) hs.length cap ∧ v0.ownBlock ≠ some g ∧ g < w.heap.size ∧
    ∀ i, i < hs.length → ∃ gi ci, w.cell? ⟨g, i, none⟩ = some (.slice (some ⟨gi, 0, none⟩) (hs[i]?.getD []).length ci) ∧ v0.ownBlock ≠ some gi ∧ Arr w gi 0 (hs[i]?.getD [])
theorem OwnH.read {w : World} {base T : Nat} {v v0 : Value} {hs : List (List Nat)} (h : OwnH w base T v hs) (hl : 0 < hs.length) (hoff : ∀ k, v0.ownBlock = some k → k < base) : RdH w v0 v hs := by
  obtain ⟨cells, h1, h2, h3⟩ := h
  rcases h1.2 with ⟨_, hn⟩ | ⟨g, cap, cur, rfl, hbg, hgg, _⟩
  · omega
  · refine ⟨g, cap, by rw [h2], fun e => by have := hoff _ e; omega, (Array.getElem?_eq_some_iff.1 hgg).1, fun i hi => ?_⟩
    obtain ⟨gi, ci, e1, e2, e3, e4⟩ := h3 i hi
    refine ⟨gi, ci, ?_, fun e => by have := hoff _ e; omega, e4⟩
    have := h1.cells (g := g) rfl i _ e1
    have hadd : (⟨g, 0, none⟩ : Addr).add i = ⟨g, i, none⟩ := by unfold Addr.add; split <;> simp_all
    rwa [hadd] at this
theorem RdH.grew {w w' : World} {v0 v0' v : Value} {hs : List (List Nat)} (h : RdH w v0 v hs) (hg : Grew w w' v0 v0') : RdH w' v0' v hs := by
  obtain ⟨g, cap, rfl, h1, h2, h3⟩ := h
  refine ⟨g, cap, rfl, hg.off h2 h1, Nat.lt_of_lt_of_le h2 hg.size, fun i hi => ?_⟩
  obtain ⟨gi, ci, e1, e2, e3⟩ := h3 i hi
  exact ⟨gi, ci, (World.cell?_of_block (w := w) (a := ⟨g, i, none⟩) (hg.block h2 h1)).trans e1, hg.off e3.1 e2, hg.arr e3 e2⟩

end Go.Proofs.Ytokfiflflcfidab
