import Derived.Test.YtokfiflflcfidabPlain
import Derived.Test.YtokfiflflcfidabMem
import Derived.WalkKit
import Derived.WalkSpells
import Derived.Deep.RegionLaw
namespace Go.Proofs.Ytokfiflflcfidab
open Go.RowKit

/-- an event: does it write; its thread, cell; the edge behind it; its value; is nothing claimed of it -/
structure Ev where
  wr : Bool
  th : Nat
  ce : Nat
  af : Nat
  va : Nat
  lo : Bool

def ev0 : Ev := ⟨false, 0, 0, 0, 0, false⟩

/-- the cells of an event -/
def evCells (e : Ev) : List Value := [.bool e.wr, .int .i64 (e.th : Int), .int .i64 (e.ce : Int), .int .i64 (e.af : Int), .int .i64 (e.va : Int), .bool e.lo]

/-- the event's cells lie at ⟨b, p⟩ -/
structure EvAt (w : World) (b p : Nat) (e : Ev) : Prop where
  wr : w.cell? ⟨b, p, none⟩ = some (.bool e.wr)
  th : w.cell? ⟨b, p + 1, none⟩ = some (.int .i64 (e.th : Int))
  ce : w.cell? ⟨b, p + 2, none⟩ = some (.int .i64 (e.ce : Int))
  af : w.cell? ⟨b, p + 3, none⟩ = some (.int .i64 (e.af : Int))
  va : w.cell? ⟨b, p + 4, none⟩ = some (.int .i64 (e.va : Int))
  lo : w.cell? ⟨b, p + 5, none⟩ = some (.bool e.lo)

/-- the slice of events that begins at ⟨b, 0⟩ -/
def EArr (w : World) (b : Nat) (l : List Ev) : Prop := b < w.heap.size ∧ ∀ i, i < l.length → EvAt w b (i * 6) (l[i]?.getD ev0)

theorem EArr.at {w : World} {b : Nat} {l : List Ev} (h : EArr w b l) {i : Nat} (hi : i < l.length) : EvAt w b (i * 6) (l[i]?.getD ev0) := h.2 i hi

theorem EArr.kept {w w' : World} {b : Nat} {l : List Ev} (h : EArr w b l) (hb : Below w.heap.size w w') : EArr w' b l := by
  refine ⟨Nat.lt_of_lt_of_le h.1 hb.size, fun i hi => ?_⟩
  have e := h.2 i hi
  exact ⟨(hb.cell (p := ⟨b, _, none⟩) h.1).trans e.wr, (hb.cell (p := ⟨b, _, none⟩) h.1).trans e.th, (hb.cell (p := ⟨b, _, none⟩) h.1).trans e.ce,
    (hb.cell (p := ⟨b, _, none⟩) h.1).trans e.af, (hb.cell (p := ⟨b, _, none⟩) h.1).trans e.va, (hb.cell (p := ⟨b, _, none⟩) h.1).trans e.lo⟩

def isW (c : Nat) (e : Ev) : Bool := e.wr && e.ce == c

theorem take_snocE (l : List Ev) (n : Nat) (h : n < l.length) : l.take (n + 1) = l.take n ++ [l[n]?.getD ev0] := by
  rw [List.take_succ_eq_append_getElem h]; simp [h]
theorem countW_succ (p : Ev → Bool) (l : List Ev) (n : Nat) (h : n < l.length) : (l.take (n + 1)).countP p = (l.take n).countP p + if p (l[n]?.getD ev0) then 1 else 0 := by
  rw [take_snocE l n h, List.countP_append]; simp [List.countP_cons]
theorem countW_le (p : Ev → Bool) (l : List Ev) (n : Nat) : (l.take n).countP p ≤ n :=
  Nat.le_trans List.countP_le_length (List.length_take_le _ _)

/-- the edge behind event i -/
def afOf (l : List Ev) (i : Nat) : Nat := (l[i]?.getD ev0).af
/-- from event i: how many edges till one that leads to another cell -/
def runLen (l : List Ev) (i : Nat) : Nat := firstNo (fun m => !lC (afOf l ((i + m) % l.length))) l.length
/-- i and the m events behind it -/
def segTo (n i m : Nat) : List Nat := (List.range m).map fun k => (i + k) % n
/-- does a cell's row of events begin at event i? -/
def opens (l : List Ev) (c i : Nat) : Bool := (l[i]?.getD ev0).ce == c && lC (afOf l ((i + l.length - 1) % l.length))
/-- the events of a cell, of the rows that begin below k -/
def chTo (l : List Ev) (c : Nat) : Nat → List Nat
  | 0 => []
  | k + 1 => chTo l c k ++ if opens l c k then segTo l.length k (runLen l k + 1) else []
def chain (l : List Ev) (c : Nat) : List Nat := chTo l c l.length

theorem segTo_succ (n i m : Nat) : segTo n i (m + 1) = segTo n i m ++ [(i + m) % n] := by simp [segTo, List.range_succ]
theorem segTo_one (n i : Nat) (h : i < n) : segTo n i 1 = [i] := by simp [segTo, List.range_succ, Nat.mod_eq_of_lt h]
theorem segTo_length (n i m : Nat) : (segTo n i m).length = m := by simp [segTo]
theorem runLen_le (l : List Ev) (i : Nat) : runLen l i ≤ l.length := firstNo_le _ _
theorem chTo_length (l : List Ev) (c k : Nat) : (chTo l c k).length ≤ k * (l.length + 1) := by
  induction k with
  | zero => simp [chTo]
  | succ k ih =>
    have := runLen_le l k
    have e1 : (k + 1) * (l.length + 1) = k * (l.length + 1) + (l.length + 1) := Nat.succ_mul _ _
    simp only [chTo, List.length_append]
    split
    · rw [segTo_length]; omega
    · simp; omega

theorem runLen_lt (l : List Ev) (n : Nat) (hn : n < l.length) (hmov : ∃ i, i < l.length ∧ lC (afOf l i) = true) : runLen l n < l.length := by
  obtain ⟨i, hi, hc⟩ := hmov
  apply Nat.lt_of_not_le
  intro hge
  have hall := firstNo_yes (fun m => !lC (afOf l ((n + m) % l.length))) l.length
  by_cases hin : n ≤ i
  · have := hall (i - n) (by unfold runLen at hge; omega)
    have e1 : (n + (i - n)) % l.length = i := by rw [show n + (i - n) = i from by omega, Nat.mod_eq_of_lt hi]
    simp only [e1, hc] at this
    cases this
  · have := hall (i + l.length - n) (by unfold runLen at hge; omega)
    have e1 : (n + (i + l.length - n)) % l.length = i := by rw [show n + (i + l.length - n) = i + l.length from by omega, Nat.add_mod_right, Nat.mod_eq_of_lt hi]
    simp only [e1, hc] at this
    cases this
theorem run_step (l : List Ev) (n m : Nat) (hm : m < runLen l n) : lC (afOf l ((n + m) % l.length)) = false := by
  have := firstNo_yes (fun m => !lC (afOf l ((n + m) % l.length))) l.length m hm
  simpa using this
theorem run_end (l : List Ev) (n : Nat) (h : runLen l n < l.length) : lC (afOf l ((n + runLen l n) % l.length)) = true := by
  have := firstNo_no (fun m => !lC (afOf l ((n + m) % l.length))) l.length h
  have h2 : (!lC (afOf l ((n + runLen l n) % l.length))) = false := this
  simpa using h2

/-- v owns the events l -/
def OwnE (w : World) (base T : Nat) (v : Value) (l : List Ev) : Prop := w.ownsRow base T 6 v l.length (l.flatMap evCells)

theorem OwnE.nil (w : World) (base T : Nat) : OwnE w base T (.slice none 0 0) [] := World.ownsRow_nil w base T 6
theorem OwnE.kept {w w' : World} {base T : Nat} {v : Value} {l : List Ev} (h : OwnE w base T v l) (hb : Below w.heap.size w w') : OwnE w' base T v l := ownsRow_kept h hb

theorem flat_at (l : List Ev) (i j : Nat) (hi : i < l.length) (hj : j < 6) : (l.flatMap evCells)[i * 6 + j]? = (evCells (l[i]?.getD ev0))[j]? := by
  induction l generalizing i with
  | nil => simp at hi
  | cons e l ih =>
    rw [List.flatMap_cons]
    have h6 : (evCells e).length = 6 := rfl
    cases i with
    | zero => rw [List.getElem?_append_left (by omega)]; simp
    | succ i =>
      rw [List.getElem?_append_right (by omega), h6, show (i + 1) * 6 + j - 6 = i * 6 + j from by omega, ih i (by simpa using hi)]
      simp

theorem OwnE.shape {w : World} {base T : Nat} {v : Value} {l : List Ev} (h : OwnE w base T v l) (hl : 0 < l.length) :
    ∃ g cap, v = .slice (some ⟨g, 0, none⟩) l.length cap ∧ base ≤ g ∧ EArr w g l := by
  have h' := h
  rcases h.2 with ⟨_, hn⟩ | ⟨g, cap, cur, rfl, hbg, hgg, _⟩
  · omega
  · refine ⟨g, cap, rfl, hbg, (Array.getElem?_eq_some_iff.1 hgg).1, fun i hi => ?_⟩
    have key : ∀ j u, j < 6 → (evCells (l[i]?.getD ev0))[j]? = some u → w.cell? ⟨g, i * 6 + j, none⟩ = some u := by
      intro j u hj hu
      have := h'.cells (g := g) rfl (i * 6 + j) u (by rw [flat_at l i j hi hj]; exact hu)
      have hadd : (⟨g, 0, none⟩ : Addr).add (i * 6 + j) = ⟨g, i * 6 + j, none⟩ := by unfold Addr.add; split <;> simp_all
      rwa [hadd] at this
    exact ⟨key 0 _ (by omega) rfl, key 1 _ (by omega) rfl, key 2 _ (by omega) rfl, key 3 _ (by omega) rfl, key 4 _ (by omega) rfl, key 5 _ (by omega) rfl⟩

theorem step_append_own {P : Program} {ops : Array Oper} {o : Oper} {a : Act} {w : World} {K : Act → World → Prop} {Q : Exit → Act → World → Prop} {E : Prop}
    (hg : o.guard = none) (s x : Operand) (t : TypeId) (hop : o.op = Op.call { callee := Callee.builtin Builtin.append, args := #[s, x], argTypes := #[t, t] })
    (base : Nat) (e : TypeId) (i : TypeInfo) (z : Value) (size bytes : Nat) (h1 : P.underlying t = some (.slice e)) (h2 : P.info? e = some i) (h3 : i.zero = some z) (h4 : i.size = size) (h5 : i.bytes = bytes) (h6 : z.cells.size = size) (h7 : 0 < size)
    (v : Value) (n : Nat) (xs : List Value) (hs : a.eval s = v) (hown : w.ownsRow base e size v n xs)
    (ad : Addr) (m c : Nat) (news : List Value) (hx : a.eval x = .slice (some ad) m c) (hn : news.length = m * size) (hc : ∀ j u, news[j]? = some u → w.cell? (ad.add j) = some u) (h1c : ∀ u ∈ news, u.oneCell' = true)
    (b1 : n + m ≤ maxLen) (b2 : (n + m) * bytes ≤ 140737488355328) (hbase : base ≤ w.heap.size)
    (hK : ∀ v' w', w'.ownsRow base e size v' (n + m) (xs ++ news) → w.grownBy w' v.ownBlock → K (a.put o.dst v') w') :
    if Region.wanted o (yielded ops a.tmps) = true then Oper.wp P o a w K Q else E := by
  have hw : Region.wanted o (yielded ops a.tmps) = true := by simp [Region.wanted, hg]
  rw [if_pos hw]
  obtain ⟨v', w', hrun, r1, r2, _⟩ := run_append_own (P := P) w base t o.type e i z size bytes h1 h2 h3 h4 h5 h6 h7 v n xs hown ad m c news hn hc h1c b1 b2 hbase
  unfold Oper.wp
  simp [execOp, hop, resolve, invoke, builtin, hs, hx, hrun, Result.andThen]
  exact hK v' w' r1 r2

/-- event i of the edges l over C cells, its value not yet told -/
def evS (l : List Nat) (C i : Nat) : Ev := ⟨bW (l[i]?.getD 0), (l.take i).countP lT, (l.take i).countP lC % C, l[i]?.getD 0, 0, false⟩
def evsTo (l : List Nat) (C n : Nat) : List Ev := (List.range n).map (evS l C)
theorem evsTo_succ (l : List Nat) (C n : Nat) : evsTo l C (n + 1) = evsTo l C n ++ [evS l C n] := by simp [evsTo, List.range_succ]
theorem evsTo_length (l : List Nat) (C n : Nat) : (evsTo l C n).length = n := by simp [evsTo]

theorem ev_new (w : World) (T : Nat) (e : Ev) (j : Nat) (u : Value) (h : (evCells e)[j]? = some u) : (w.alloc (.cells #[.bool e.wr, .int .i64 (e.th : Int), .int .i64 (e.ce : Int), .int .i64 (e.af : Int), .int .i64 (e.va : Int), .bool e.lo] T)).cell? ((⟨w.heap.size, 0, none⟩ : Addr).add j) = some u := by
  have hadd : (⟨w.heap.size, 0, none⟩ : Addr).add j = ⟨w.heap.size, j, none⟩ := by unfold Addr.add; split <;> simp_all
  rw [hadd]
  match j, h with
  | 0, h => simp [evCells] at h; subst h; simp
  | 1, h => simp [evCells] at h; subst h; simp
  | 2, h => simp [evCells] at h; subst h; simp
  | 3, h => simp [evCells] at h; subst h; simp
  | 4, h => simp [evCells] at h; subst h; simp
  | 5, h => simp [evCells] at h; subst h; simp
theorem ev_one (e : Ev) : ∀ u ∈ evCells e, u.oneCell' = true := by
  intro u hu
  simp [evCells] at hu
  rcases hu with rfl | rfl | rfl | rfl | rfl | rfl <;> rfl

/-- one event's value is told: s: the events, the writes so far -/
def putV (one : Bool) (s : List Ev × Nat) (i : Nat) : List Ev × Nat :=
  (s.1.set i { s.1[i]?.getD ev0 with va := s.2 + (if (s.1[i]?.getD ev0).wr then 1 else 0), lo := !(s.1[i]?.getD ev0).wr && one }, s.2 + (if (s.1[i]?.getD ev0).wr then 1 else 0))
def valTo (l : List Ev) (ch : List Nat) (k : Nat) : List Ev × Nat := (ch.take k).foldl (putV (ch.length == 1)) (l, 0)
def cellTo (l : List Ev) : Nat → List Ev
  | 0 => l
  | c + 1 => (valTo (cellTo l c) (chain (cellTo l c) c) (chain (cellTo l c) c).length).1
/-- the events of a base -/
def eventsL (l : List Nat) : List Ev := cellTo (evsTo l (l.countP lC) l.length) (l.countP lC)
def eventsOf (base : List Nat) : List Ev := eventsL (turn base (outTo base base.length % base.length))

theorem valTo_succ (l : List Ev) (ch : List Nat) (k : Nat) (h : k < ch.length) : valTo l ch (k + 1) = putV (ch.length == 1) (valTo l ch k) (ch[k]?.getD 0) := by
  unfold valTo; rw [take_snoc ch k h, List.foldl_append]; rfl
theorem putV_le (one : Bool) (s : List Ev × Nat) (i : Nat) : (putV one s i).2 ≤ s.2 + 1 := by unfold putV; dsimp only; split <;> omega
theorem valTo_le (l : List Ev) (ch : List Nat) (k : Nat) : (valTo l ch k).2 ≤ k := by
  induction k with
  | zero => simp [valTo]
  | succ k ih =>
    by_cases h : k < ch.length
    · rw [valTo_succ l ch k h]; have := putV_le (ch.length == 1) (valTo l ch k) (ch[k]?.getD 0); omega
    · have e1 : valTo l ch (k + 1) = valTo l ch k := by unfold valTo; rw [List.take_of_length_le (by omega), List.take_of_length_le (by omega)]
      rw [e1]; omega

/-- but for values and Lone the same events -/
def Stat (a b : List Ev) : Prop := b.length = a.length ∧ ∀ i : Nat, (b[i]?.getD ev0).wr = (a[i]?.getD ev0).wr ∧ (b[i]?.getD ev0).th = (a[i]?.getD ev0).th ∧ (b[i]?.getD ev0).ce = (a[i]?.getD ev0).ce ∧ (b[i]?.getD ev0).af = (a[i]?.getD ev0).af
theorem Stat.refl (a : List Ev) : Stat a a := ⟨rfl, fun _ => ⟨rfl, rfl, rfl, rfl⟩⟩
theorem Stat.trans {a b c : List Ev} (h : Stat a b) (k : Stat b c) : Stat a c :=
  ⟨k.1.trans h.1, fun i => ⟨(k.2 i).1.trans (h.2 i).1, (k.2 i).2.1.trans (h.2 i).2.1, (k.2 i).2.2.1.trans (h.2 i).2.2.1, (k.2 i).2.2.2.trans (h.2 i).2.2.2⟩⟩
theorem Stat.put (one : Bool) (s : List Ev × Nat) (i : Nat) : Stat s.1 (putV one s i).1 := by
  refine ⟨by simp [putV], fun j => ?_⟩
  simp only [putV, List.getElem?_set]
  by_cases hij : i = j
  · subst hij
    by_cases hi : i < s.1.length
    · simp [hi]
    · simp [hi]
  · simp [hij]
theorem Stat.val (l : List Ev) (ch : List Nat) (k : Nat) : Stat l (valTo l ch k).1 := by
  induction k with
  | zero => exact Stat.refl _
  | succ k ih =>
    by_cases h : k < ch.length
    · rw [valTo_succ l ch k h]; exact ih.trans (Stat.put _ _ _)
    · have e1 : valTo l ch (k + 1) = valTo l ch k := by unfold valTo; rw [List.take_of_length_le (by omega), List.take_of_length_le (by omega)]
      rw [e1]; exact ih
theorem Stat.cell (l : List Ev) (c : Nat) : Stat l (cellTo l c) := by
  induction c with
  | zero => exact Stat.refl _
  | succ c ih => exact ih.trans (Stat.val _ _ _)

theorem mem_chTo (l : List Ev) (c k : Nat) (hl : 0 < l.length) : ∀ x ∈ chTo l c k, x < l.length := by
  induction k with
  | zero => intro x hx; simp [chTo] at hx
  | succ k ih =>
    intro x hx
    simp only [chTo, List.mem_append] at hx
    rcases hx with h | h
    · exact ih x h
    · split at h
      · simp only [segTo, List.mem_map] at h
        obtain ⟨m, _, rfl⟩ := h
        exact Nat.mod_lt _ hl
      · simp at h

/-- a store into event i: its value, then Lone -/
theorem flat_set (l : List Ev) (i : Nat) (hi : i < l.length) (v : Nat) (o : Bool) :
    (((l.flatMap evCells).set (i * 6 + 4) (.int .i64 (v : Int))).set (i * 6 + 5) (.bool o)) = (l.set i { l[i]?.getD ev0 with va := v, lo := o }).flatMap evCells := by
  induction l generalizing i with
  | nil => simp at hi
  | cons e l ih =>
    cases i with
    | zero => simp [evCells]
    | succ i =>
      have h6 : (evCells e).length = 6 := rfl
      rw [List.flatMap_cons, List.set_append_right _ _ (by omega), List.set_append_right _ _ (by omega), h6, show (i + 1) * 6 + 4 - 6 = i * 6 + 4 from by omega, show (i + 1) * 6 + 5 - 6 = i * 6 + 5 from by omega, ih i (by simpa using hi)]
      simp

theorem OwnE.put {w : World} {base T g n cap : Nat} {l : List Ev} (h : OwnE w base T (.slice (some ⟨g, 0, none⟩) n cap) l) (hn : l.length = n) {i : Nat} (hi : i < l.length) (v : Nat) (o : Bool) :
    OwnE ((w.setCell ⟨g, i * 6 + 4, none⟩ (.int .i64 (v : Int))).setCell ⟨g, i * 6 + 5, none⟩ (.bool o)) base T (.slice (some ⟨g, 0, none⟩) n cap) (l.set i { l[i]?.getD ev0 with va := v, lo := o }) := by
  subst hn
  unfold OwnE at *
  have h1 := (h.stored (i * 6 + 4) (.int .i64 (v : Int))).1
  have h2 := (h1.stored (i * 6 + 5) (.bool o)).1
  rw [flat_set l i hi] at h2
  simpa using h2

theorem OwnE.arr {w : World} {base T g n cap : Nat} {l : List Ev} (h : OwnE w base T (.slice (some ⟨g, 0, none⟩) n cap) l) (hl : 0 < l.length) : EArr w g l ∧ base ≤ g := by
  obtain ⟨g', cap', hv, hb, hA⟩ := h.shape hl
  simp only [Value.slice.injEq, Option.some.injEq, Addr.mk.injEq, and_true] at hv
  rw [hv.1]
  exact ⟨hA, hb⟩
theorem OwnE.rebase {w : World} {base base' T : Nat} {v : Value} {l : List Ev} (h : OwnE w base T v l) (hb : base' ≤ base) : OwnE w base' T v l := by
  refine ⟨h.1, ?_⟩
  rcases h.2 with hn | ⟨g, cap, cur, rfl, hbg, rest⟩
  · exact .inl hn
  · exact .inr ⟨g, cap, cur, rfl, by omega, rest⟩
theorem Own.split {w : World} {base T : Nat} {v : Value} {l : List Nat} (h : Own w base T v l) : (v = .slice none 0 0 ∧ l = []) ∨ ∃ g cap, v = .slice (some ⟨g, 0, none⟩) l.length cap ∧ base ≤ g ∧ Arr w g 0 l := by
  have h' := h
  rcases h.2 with ⟨rfl, hn⟩ | ⟨g, cap, cur, rfl, hbg, hgg, _⟩
  · exact Or.inl ⟨rfl, List.eq_nil_of_length_eq_zero hn⟩
  · refine Or.inr ⟨g, cap, rfl, hbg, (Array.getElem?_eq_some_iff.1 hgg).1, fun k hk => ?_⟩
    have := h'.cells (g := g) rfl k (.int .i64 ((l[k]?.getD 0 : Nat) : Int)) (by simp [nums, hk])
    have hadd : (⟨g, 0, none⟩ : Addr).add k = ⟨g, 0 + k, none⟩ := by unfold Addr.add; split <;> simp_all
    rw [hadd] at this
    exact this

theorem Arr.setOther {w : World} {b off : Nat} {l : List Nat} (h : Arr w b off l) {a : Addr} (ha : a.block ≠ b) (u : Value) : Arr (w.setCell a u) b off l := by
  refine ⟨by simpa [World.setCell] using h.1, fun k hk => ?_⟩
  rw [← h.2 k hk]
  exact World.cell?_of_block (Below.heap_setCell _ _ _ _ (by intro e; exact ha e.symm))

end Go.Proofs.Ytokfiflflcfidab
