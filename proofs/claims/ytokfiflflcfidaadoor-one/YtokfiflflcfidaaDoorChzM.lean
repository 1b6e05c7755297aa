import Derived.Test.YtokfiflflcfidaaDoorMem
import Derived.Test.YtokfiflflcfidaaDoorMem2
import Derived.Test.YtokfiflflcfidaaDoorMemQ
import Derived.Test.YtokfiflflcfidaaDoorEvMem
import Derived.Test.YtokfiflflcfidaaDoorScr
import Derived.WalkKit
import Derived.WalkSpells
import Derived.ArgAppend
namespace Go.Proofs.YtokfiflflcfidaaDoor
open Go.RowKit

/-- rows of ints -/
def numsZ (l : List Int) : List Value := l.map fun z : Int => Value.int .i64 z
theorem numsZ_length (l : List Int) : (numsZ l).length = l.length := by simp [numsZ]
def OwnZ (w : World) (base T : Nat) (v : Value) (l : List Int) : Prop := w.ownsRow base T 1 v l.length (numsZ l)
theorem OwnZ.nil (w : World) (base T : Nat) : OwnZ w base T (.slice none 0 0) [] := World.ownsRow_nil w base T 1
/-- a slice of ints is read -/
def RdZ (w : World) (v : Value) (l : List Int) : Prop := ∃ a cap, v = .slice a l.length cap ∧ ∀ i, i < l.length → ∃ b, a = some ⟨b, 0, none⟩ ∧ b < w.heap.size ∧ w.cell? ⟨b, i, none⟩ = some (.int .i64 (l[i]?.getD 0))
theorem OwnZ.rd {w : World} {base T : Nat} {v : Value} {l : List Int} (h : OwnZ w base T v l) : RdZ w v l := by
  have h' := h
  rcases h.2 with ⟨rfl, hn⟩ | ⟨g, cap, cur, rfl, hbg, hgg, _⟩
  · exact ⟨none, 0, by rw [hn], fun i hi => by omega⟩
  · refine ⟨_, cap, rfl, fun i hi => ⟨g, rfl, (Array.getElem?_eq_some_iff.1 hgg).1, ?_⟩⟩
    have := h'.cells (g := g) rfl i (.int .i64 (l[i]?.getD 0)) (by simp [numsZ, hi])
    rwa [addr_add0] at this
theorem RdZ.kept {w w' : World} {v : Value} {l : List Int} (h : RdZ w v l) (hb : Below w.heap.size w w') : RdZ w' v l := by
  obtain ⟨a, cap, rfl, h1⟩ := h
  refine ⟨a, cap, rfl, fun i hi => ?_⟩
  obtain ⟨b, e, h2, h3⟩ := h1 i hi
  exact ⟨b, e, Nat.lt_of_lt_of_le h2 hb.size, (hb.cell (p := ⟨b, _, none⟩) h2).trans h3⟩
theorem OwnZ.len {w : World} {base T : Nat} {v : Value} {l : List Int} (h : OwnZ w base T v l) : ∃ a c, v = .slice a l.length c := by
  rcases h.2 with ⟨rfl, hn⟩ | ⟨g, cap, cur, rfl, _⟩
  · exact ⟨none, 0, by rw [hn]⟩
  · exact ⟨_, _, rfl⟩

/-- 'l = append(l, z)' -/
theorem wpList_pushZ {P : Program} {wr : World} {ops : Array Oper} {rest : List Oper} {o : Oper} {a : Act} {Q : Exit → Act → World → Prop} (hgd : o.guard = none) (s x : Operand) (t : TypeId)
    (ho : o.op = .call { callee := .builtin .append, args := #[s, x], argTypes := #[t, t] })
    (base : Nat) (T : TypeId) (ht : P.underlying t = some (.slice T)) (hinfo : (P.info? T).map (fun i => (i.zero, i.size, i.bytes)) = some (some (.int .i64 0), 1, 8))
    (v : Value) (l : List Int) (z : Int) (hs : a.eval s = v) (hx : a.eval x = .slice (some ⟨wr.heap.size, 0, none⟩) 1 1)
    (hown : OwnZ wr base T v l) (hlen : l.length ≤ 1000000) (hbase : base ≤ wr.heap.size)
    (h : ∀ v' w', OwnZ w' base T v' (l ++ [z]) → Grew wr w' v v' → wpList P ops Q rest (a.put o.dst v') w') :
    wpList P ops Q (o :: rest) a (wr.alloc (.cells #[.int .i64 z] T)) := by
  have hown2 : wr.ownsRow base T 1 v (numsZ l).length (numsZ l) := by rw [numsZ_length]; exact hown
  refine wpList_pushG hgd s x t ho base T (.int .i64 0) 8 ht hinfo rfl v (numsZ l) (.int .i64 z) rfl hs hx hown2 (by rw [numsZ_length]; omega) (by rw [numsZ_length]; unfold maxLen; omega) hbase ?_
  intro v' w' h1 h2
  refine h v' w' ?_ h2
  have e1 : numsZ l ++ [.int .i64 z] = numsZ (l ++ [z]) := by simp [numsZ]
  rw [e1, numsZ_length] at h1
  exact h1
/-- what is owned in another block stays so -/
theorem ownsRow_grew {w w' : World} {base T size n : Nat} {v v0 v0' : Value} {xs : List Value} (h : w.ownsRow base T size v n xs) (hg : Grew w w' v0 v0') (hne : ∀ k, v.ownBlock = some k → v0.ownBlock ≠ some k) : w'.ownsRow base T size v n xs := by
  refine ⟨h.1, ?_⟩
  rcases h.2 with hn | ⟨g, cap, cur, rfl, hbg, hgg, rest⟩
  · exact .inl hn
  · refine .inr ⟨g, cap, cur, rfl, hbg, ?_, rest⟩
    rw [hg.block (Array.getElem?_eq_some_iff.1 hgg).1 (hne g rfl)]
    exact hgg

/-- the law's pick -/
def pkN (l : List Int) (i n : Nat) : Nat := if i < l.length then pickN (l[i]?.getD 0) n else 0
theorem pkN_lt (l : List Int) (i : Nat) {n : Nat} (hn : 0 < n) : pkN l i n < n := by
  unfold pkN
  split
  · exact pickN_lt _ hn
  · exact hn

/-- the writes of event i's cell among the first k events -/
def wsTo (l : List Ev) (i : Nat) : Nat → List Nat
  | 0 => []
  | k + 1 => wsTo l i k ++ if isW (l[i]?.getD ev0).ce (l[k]?.getD ev0) then [k] else []
theorem wsTo_le (l : List Ev) (i k : Nat) : (wsTo l i k).length ≤ k := by
  induction k with
  | zero => exact Nat.le_refl _
  | succ k ih => rw [wsTo, List.length_append]; split <;> simp <;> omega
def wsOf (l : List Ev) (i : Nat) : List Nat := wsTo l i l.length
/-- how many of them stand ahead of event i -/
def mineOf (l : List Ev) (i : Nat) : Nat := (wsTo l i i).length
def mineTo (l : List Ev) (i k : Nat) : Nat := (wsTo l i (if k < i then k else i)).length
/-- the choice: from where read i takes its number (0: none, j + 1: event j); the place of write i -/
def frmOf (l : List Ev) (ps : List Int) (i : Nat) : Nat :=
  if (l[i]?.getD ev0).wr then 0 else if pkN ps i ((wsOf l i).length + 1) = 0 then 0 else (wsOf l i)[pkN ps i ((wsOf l i).length + 1) - 1]?.getD 0 + 1
def plcOf (l : List Ev) (ps : List Int) (i : Nat) : Nat :=
  if (l[i]?.getD ev0).wr then (if pkN ps (l.length + (l[i]?.getD ev0).ce) 2 = 1 then (wsOf l i).length - 1 - mineOf l i else mineOf l i) else 0
def frmTo (l : List Ev) (ps : List Int) (n : Nat) : List Int := (List.range n).map fun i => (frmOf l ps i : Int) - 1
def plcTo (l : List Ev) (ps : List Int) (n : Nat) : List Int := (List.range n).map fun i => (plcOf l ps i : Int)
theorem frmTo_succ (l : List Ev) (ps : List Int) (n : Nat) : frmTo l ps (n + 1) = frmTo l ps n ++ [(frmOf l ps n : Int) - 1] := by simp [frmTo, List.range_succ]
theorem plcTo_succ (l : List Ev) (ps : List Int) (n : Nat) : plcTo l ps (n + 1) = plcTo l ps n ++ [(plcOf l ps n : Int)] := by simp [plcTo, List.range_succ]

end Go.Proofs.YtokfiflflcfidaaDoor
