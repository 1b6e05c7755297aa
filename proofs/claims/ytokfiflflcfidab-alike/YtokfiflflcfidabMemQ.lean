import Derived.Test.YtokfiflflcfidabMem
import Derived.Test.YtokfiflflcfidabMem2
import Derived.WalkKit
import Derived.WalkSpells
import Derived.ArgAppend
namespace Go.Proofs.Ytokfiflflcfidab
open Go.RowKit

/-- an instruction or a claim: four numbers -/
structure Q4 where
  a : Int
  b : Int
  c : Int
  d : Int
  deriving DecidableEq
def q0 : Q4 := ⟨0, 0, 0, 0⟩
/-- its numbers are ints -/
def Q4.ok (x : Q4) : Prop := (-9223372036854775808 ≤ x.a ∧ x.a ≤ 9223372036854775807) ∧ (-9223372036854775808 ≤ x.b ∧ x.b ≤ 9223372036854775807) ∧ (-9223372036854775808 ≤ x.c ∧ x.c ≤ 9223372036854775807) ∧ (-9223372036854775808 ≤ x.d ∧ x.d ≤ 9223372036854775807)
def cells4 (x : Q4) : List Value := [.int .i64 x.a, .int .i64 x.b, .int .i64 x.c, .int .i64 x.d]
structure At4 (w : World) (b p : Nat) (x : Q4) : Prop where
  f0 : w.cell? ⟨b, p, none⟩ = some (.int .i64 x.a)
  f1 : w.cell? ⟨b, p + 1, none⟩ = some (.int .i64 x.b)
  f2 : w.cell? ⟨b, p + 2, none⟩ = some (.int .i64 x.c)
  f3 : w.cell? ⟨b, p + 3, none⟩ = some (.int .i64 x.d)

/-- the blocks from lo up to hi are as they were -/
structure Span (lo hi : Nat) (w w' : World) : Prop where
  size : w.heap.size ≤ w'.heap.size
  block : ∀ k, lo ≤ k → k < hi → w'.heap[k]? = w.heap[k]?
theorem Span.refl (lo hi : Nat) (w : World) : Span lo hi w w := ⟨Nat.le_refl _, fun _ _ _ => rfl⟩
theorem Span.trans {lo hi : Nat} {w w1 w2 : World} (h : Span lo hi w w1) (k : Span lo hi w1 w2) : Span lo hi w w2 :=
  ⟨Nat.le_trans h.size k.size, fun i h1 h2 => (k.block i h1 h2).trans (h.block i h1 h2)⟩
theorem Span.of_below {B lo hi : Nat} {w w' : World} (h : Below B w w') (hh : hi ≤ B) : Span lo hi w w' := ⟨h.size, fun k _ h2 => h.block k (by omega)⟩
theorem Span.mono {lo hi lo' hi' : Nat} {w w' : World} (h : Span lo hi w w') (h1 : lo ≤ lo') (h2 : hi' ≤ hi) : Span lo' hi' w w' := ⟨h.size, fun k a b => h.block k (by omega) (by omega)⟩
theorem Span.cell {lo hi : Nat} {w w' : World} (h : Span lo hi w w') {b p : Nat} (h1 : lo ≤ b) (h2 : b < hi) : w'.cell? ⟨b, p, none⟩ = w.cell? ⟨b, p, none⟩ := World.cell?_of_block (w := w) (a := ⟨b, p, none⟩) (h.block b h1 h2)
theorem Span.set {lo hi : Nat} {w w' : World} (h : Span lo hi w w') {g o : Nat} (hg : g < lo ∨ hi ≤ g) (u : Value) : Span lo hi w (w'.setCell ⟨g, o, none⟩ u) := by
  refine ⟨by simpa [World.setCell] using h.size, fun k h1 h2 => ?_⟩
  rw [← h.block k h1 h2]
  exact Below.heap_setCell _ _ _ _ (by rintro rfl; omega)
theorem Span.alloc {lo hi : Nat} {w w' : World} (h : Span lo hi w w') (hs : hi ≤ w'.heap.size) (o : Obj) : Span lo hi w (w'.alloc o) := by
  refine ⟨by have := h.size; simp; omega, fun k h1 h2 => ?_⟩
  rw [← h.block k h1 h2]
  exact ((Below.refl w'.heap.size w').alloc (Nat.le_refl _) o).block k (by omega)
theorem Span.grew {lo hi : Nat} {w w1 w2 : World} {v v' : Value} (h : Span lo hi w w1) (hg : Grew w1 w2 v v') (hs : hi ≤ w1.heap.size) (hv : ∀ k, v.ownBlock = some k → k < lo ∨ hi ≤ k) : Span lo hi w w2 := by
  refine ⟨Nat.le_trans h.size hg.size, fun k h1 h2 => ?_⟩
  rw [hg.block (by omega) (fun e => by have := hv k e; omega)]
  exact h.block k h1 h2

/-- a slice of them, its block between lo and hi -/
def Rd4 (lo hi : Nat) (w : World) (v : Value) (l : List Q4) : Prop :=
  ∃ a cap, v = .slice a l.length cap ∧ ∀ i, i < l.length → ∃ b off, a = some ⟨b, off, none⟩ ∧ lo ≤ b ∧ b < hi ∧ At4 w b (off + i * 4) (l[i]?.getD q0)
/-- a slice of such slices -/
def Rd44 (lo hi : Nat) (w : World) (v : Value) (c : List (List Q4)) : Prop :=
  ∃ a cap, v = .slice a c.length cap ∧ ∀ k, k < c.length → ∃ b off vk, a = some ⟨b, off, none⟩ ∧ lo ≤ b ∧ b < hi ∧ w.cell? ⟨b, off + k, none⟩ = some vk ∧ Rd4 lo hi w vk (c[k]?.getD [])
theorem At4.span {lo hi : Nat} {w w' : World} {b p : Nat} {x : Q4} (h : At4 w b p x) (hs : Span lo hi w w') (h1 : lo ≤ b) (h2 : b < hi) : At4 w' b p x :=
  ⟨(hs.cell h1 h2).trans h.f0, (hs.cell h1 h2).trans h.f1, (hs.cell h1 h2).trans h.f2, (hs.cell h1 h2).trans h.f3⟩
theorem Rd4.span {lo hi : Nat} {w w' : World} {v : Value} {l : List Q4} (h : Rd4 lo hi w v l) (hs : Span lo hi w w') : Rd4 lo hi w' v l := by
  obtain ⟨a, cap, rfl, h1⟩ := h
  refine ⟨a, cap, rfl, fun i hi => ?_⟩
  obtain ⟨b, off, e, h2, h3, h4⟩ := h1 i hi
  exact ⟨b, off, e, h2, h3, h4.span hs h2 h3⟩
theorem Rd44.span {lo hi : Nat} {w w' : World} {v : Value} {c : List (List Q4)} (h : Rd44 lo hi w v c) (hs : Span lo hi w w') : Rd44 lo hi w' v c := by
  obtain ⟨a, cap, rfl, h1⟩ := h
  refine ⟨a, cap, rfl, fun i hi => ?_⟩
  obtain ⟨b, off, vk, e, h2, h3, h4, h5⟩ := h1 i hi
  exact ⟨b, off, vk, e, h2, h3, (hs.cell h2 h3).trans h4, h5.span hs⟩
theorem Rd4.mono {lo hi lo' hi' : Nat} {w : World} {v : Value} {l : List Q4} (h : Rd4 lo hi w v l) (h1 : lo' ≤ lo) (h2 : hi ≤ hi') : Rd4 lo' hi' w v l := by
  obtain ⟨a, cap, rfl, h3⟩ := h
  refine ⟨a, cap, rfl, fun i hi => ?_⟩
  obtain ⟨b, off, e, h4, h5, h6⟩ := h3 i hi
  exact ⟨b, off, e, by omega, by omega, h6⟩
theorem Rd44.mono {lo hi lo' hi' : Nat} {w : World} {v : Value} {c : List (List Q4)} (h : Rd44 lo hi w v c) (h1 : lo' ≤ lo) (h2 : hi ≤ hi') : Rd44 lo' hi' w v c := by
  obtain ⟨a, cap, rfl, h3⟩ := h
  refine ⟨a, cap, rfl, fun i hi => ?_⟩
  obtain ⟨b, off, vk, e, h4, h5, h6, h7⟩ := h3 i hi
  exact ⟨b, off, vk, e, by omega, by omega, h6, h7.mono h1 h2⟩

/-- v owns the rows l -/
def Own4 (w : World) (base T : Nat) (v : Value) (l : List Q4) : Prop := w.ownsRow base T 4 v l.length (l.flatMap cells4)
theorem Own4.nil (w : World) (base T : Nat) : Own4 w base T (.slice none 0 0) [] := World.ownsRow_nil w base T 4
theorem cells4_at (l : List Q4) (i j : Nat) (hi : i < l.length) (hj : j < 4) : (l.flatMap cells4)[i * 4 + j]? = (cells4 (l[i]?.getD q0))[j]? := by
  induction l generalizing i with
  | nil => simp at hi
  | cons e l ih =>
    rw [List.flatMap_cons]
    have h6 : (cells4 e).length = 4 := rfl
    cases i with
    | zero => rw [List.getElem?_append_left (by omega)]; simp
    | succ i =>
      rw [List.getElem?_append_right (by omega), h6, show (i + 1) * 4 + j - 4 = i * 4 + j from by omega, ih i (by simpa using hi)]
      simp
theorem addr_add0 (g j : Nat) : (⟨g, 0, none⟩ : Addr).add j = ⟨g, j, none⟩ := by unfold Addr.add; split <;> simp_all
theorem Own4.rd {w : World} {base T : Nat} {v : Value} {l : List Q4} (h : Own4 w base T v l) {hi : Nat} (hh : w.heap.size ≤ hi) : Rd4 base hi w v l := by
  have h' := h
  rcases h.2 with ⟨rfl, hn⟩ | ⟨g, cap, cur, rfl, hbg, hgg, _⟩
  · exact ⟨none, 0, by rw [hn], fun i hi => by omega⟩
  · refine ⟨_, cap, rfl, fun i hi2 => ⟨g, 0, rfl, hbg, ?_, ?_⟩⟩
    · have := (Array.getElem?_eq_some_iff.1 hgg).1; omega
    · have key : ∀ j u, j < 4 → (cells4 (l[i]?.getD q0))[j]? = some u → w.cell? ⟨g, i * 4 + j, none⟩ = some u := by
        intro j u hj hu
        have := h'.cells (g := g) rfl (i * 4 + j) u (by rw [cells4_at l i j hi2 hj]; exact hu)
        rwa [addr_add0] at this
      rw [Nat.zero_add]
      exact ⟨key 0 _ (by omega) rfl, key 1 _ (by omega) rfl, key 2 _ (by omega) rfl, key 3 _ (by omega) rfl⟩
theorem Own4.len {w : World} {base T : Nat} {v : Value} {l : List Q4} (h : Own4 w base T v l) : ∃ a c, v = .slice a l.length c := by
  rcases h.2 with ⟨rfl, hn⟩ | ⟨g, cap, cur, rfl, _⟩
  · exact ⟨none, 0, by rw [hn]⟩
  · exact ⟨_, _, rfl⟩
theorem Own4.kept {w w' : World} {base T : Nat} {v : Value} {l : List Q4} (h : Own4 w base T v l) (hb : Below w.heap.size w w') : Own4 w' base T v l := ownsRow_kept h hb

/-- a row of four numbers, just laid -/
theorem four_new (w : World) (T : Nat) (e : Q4) (j : Nat) (u : Value) (h : (cells4 e)[j]? = some u) : (w.alloc (.cells #[.int .i64 e.a, .int .i64 e.b, .int .i64 e.c, .int .i64 e.d] T)).cell? ((⟨w.heap.size, 0, none⟩ : Addr).add j) = some u := by
  rw [addr_add0]
  match j, h with
  | 0, h => simp [cells4] at h; subst h; simp
  | 1, h => simp [cells4] at h; subst h; simp
  | 2, h => simp [cells4] at h; subst h; simp
  | 3, h => simp [cells4] at h; subst h; simp

/-- 'l = append(l, u)', u of k cells -/
theorem wpList_pushK {P : Program} {wr : World} {ops : Array Oper} {rest : List Oper} {o : Oper} {a : Act} {Q : Exit → Act → World → Prop} (hgd : o.guard = none) (s x : Operand) (t : TypeId)
    (ho : o.op = .call { callee := .builtin .append, args := #[s, x], argTypes := #[t, t] })
    (base : Nat) (T : TypeId) (z : Value) (size bytes : Nat) (ht : P.underlying t = some (.slice T)) (hinfo : (P.info? T).map (fun i => (i.zero, i.size, i.bytes)) = some (some z, size, bytes)) (hz : z.cells.size = size) (hs0 : 0 < size)
    (v : Value) (n : Nat) (xs : List Value) (arr : Array Value) (us : List Value) (hnew : ∀ j y, us[j]? = some y → (wr.alloc (.cells arr T)).cell? ((⟨wr.heap.size, 0, none⟩ : Addr).add j) = some y) (hus : us.length = size) (hu : ∀ u ∈ us, u.oneCell' = true) (hs : a.eval s = v) (hx : a.eval x = .slice (some ⟨wr.heap.size, 0, none⟩) 1 1)
    (hown : wr.ownsRow base T size v n xs) (hlen : (n + 1) * bytes ≤ 140737488355328) (hmax : n + 1 ≤ maxLen) (hbase : base ≤ wr.heap.size)
    (h : ∀ v' w', w'.ownsRow base T size v' (n + 1) (xs ++ us) → Grew wr w' v v' → wpList P ops Q rest (a.put o.dst v') w') :
    wpList P ops Q (o :: rest) a (wr.alloc (.cells arr T)) := by
  obtain ⟨i0, hi, hz0, hz1, hz2⟩ := info_parts hinfo
  have hga : Grew wr (wr.alloc (.cells arr T)) v v := ⟨World.grownBy_alloc _ _ _, fun _ h => Or.inl h⟩
  rcases hown.2 with ⟨hv, hn⟩ | ⟨g, cap, cur, hv, hbg, hgg, hnc, _⟩
  · have hxs : xs = [] := by
      have := hown.1
      rw [hn, Nat.zero_mul] at this
      exact List.eq_nil_of_length_eq_zero this
    subst hv
    subst hxs
    subst hn
    refine wpList_append_own _ hgd s x t ho (wr.alloc (.cells arr T)).heap.size T i0 z size bytes ht hi hz0 hz1 hz2 hz hs0 _ 0 [] hs (World.ownsRow_nil _ _ _ _) ⟨wr.heap.size, 0, none⟩ 1 1 us hx (by omega) hnew hu hmax hlen (Nat.le_refl _) ?_
    intro v' w' h1 h2 _
    refine h v' w' (ownsRow_rebase h1 (by simp; omega)) (hga.trans ⟨h2, fun k hk => Or.inr (h1.lt k hk).1⟩)
  · subst hv
    by_cases hroom : n + 1 ≤ cap
    · refine wpList_append_fits _ hgd s x t ho base T i0 size ht hi hz1 g n cap xs hs (hown.alloc _) ⟨wr.heap.size, 0, none⟩ 1 1 us hx (by omega) hnew hu hroom ?_
      intro w' h1 h2
      exact h _ w' h1 (hga.trans ⟨h2, fun k hk => Or.inl hk⟩)
    · refine wpList_append_grows _ hgd s x t ho T i0 z size bytes ht hi hz0 hz1 hz2 hz hs0 (some ⟨g, 0, none⟩) n cap xs hs (fun e => by cases e) hown.1 ?_ ⟨wr.heap.size, 0, none⟩ 1 1 us hx (by omega) hnew hu (by omega) hmax hlen ?_
      · intro b hb j y hy
        cases hb
        exact (hown.alloc _).cells (g := g) rfl j y hy
      · intro v' w' h1 h2
        refine h v' w' (ownsRow_rebase h1 (by simp; omega)) (hga.trans ⟨⟨h2.os, h2.tape, h2.output, h2.size, fun k hk _ => h2.block k hk (by simp)⟩, fun k hk => Or.inr (h1.lt k hk).1⟩)

theorem cells4_one (x : Q4) : ∀ u ∈ cells4 x, u.oneCell' = true := by
  intro u hu
  simp [cells4] at hu
  rcases hu with rfl | rfl | rfl | rfl <;> rfl
/-- the same of four numbers -/
theorem wpList_push4 {P : Program} {wr : World} {ops : Array Oper} {rest : List Oper} {o : Oper} {a : Act} {Q : Exit → Act → World → Prop} (hgd : o.guard = none) (s x : Operand) (t : TypeId)
    (ho : o.op = .call { callee := .builtin .append, args := #[s, x], argTypes := #[t, t] })
    (base : Nat) (T : TypeId) (ht : P.underlying t = some (.slice T)) (hinfo : (P.info? T).map (fun i => (i.zero, i.size, i.bytes)) = some (some (.agg #[.int .i64 0, .int .i64 0, .int .i64 0, .int .i64 0]), 4, 32))
    (v : Value) (l : List Q4) (e : Q4) (hs : a.eval s = v) (hx : a.eval x = .slice (some ⟨wr.heap.size, 0, none⟩) 1 1)
    (hown : Own4 wr base T v l) (hlen : l.length ≤ 1000000000000) (hbase : base ≤ wr.heap.size)
    (h : ∀ v' w', Own4 w' base T v' (l ++ [e]) → Grew wr w' v v' → wpList P ops Q rest (a.put o.dst v') w') :
    wpList P ops Q (o :: rest) a (wr.alloc (.cells #[.int .i64 e.a, .int .i64 e.b, .int .i64 e.c, .int .i64 e.d] T)) := by
  refine wpList_pushK hgd s x t ho base T (.agg #[.int .i64 0, .int .i64 0, .int .i64 0, .int .i64 0]) 4 32 ht hinfo rfl (by decide) v l.length (l.flatMap cells4) #[.int .i64 e.a, .int .i64 e.b, .int .i64 e.c, .int .i64 e.d] (cells4 e) (four_new wr T e) rfl (cells4_one e) hs hx hown (by omega) (by unfold maxLen; omega) hbase ?_
  intro v' w' h1 h2
  refine h v' w' ?_ h2
  unfold Own4
  rw [List.flatMap_append, List.length_append]
  simpa using h1

/-- v owns a row of slices, their rows in blocks of their own -/
def Own44 (w : World) (base T : Nat) (v : Value) (c : List (List Q4)) : Prop :=
  ∃ cells : List Value, w.ownsRow base T 1 v cells.length cells ∧ cells.length = c.length ∧
    ∀ i, i < c.length → ∃ vi, cells[i]? = some vi ∧ vi.oneCell' = true ∧ (∃ a n cap, vi = .slice a n cap) ∧ (∀ g, vi.ownBlock = some g → base ≤ g ∧ g < w.heap.size ∧ v.ownBlock ≠ some g) ∧ Rd4 base w.heap.size w vi (c[i]?.getD [])
theorem Own44.nil (w : World) (base T : Nat) : Own44 w base T (.slice none 0 0) [] := ⟨[], World.ownsRow_nil w base T 1, rfl, fun i hi => absurd hi (by simp)⟩
theorem Own44.lt {w : World} {base T : Nat} {v : Value} {c : List (List Q4)} (h : Own44 w base T v c) {k : Nat} (hk : v.ownBlock = some k) : base ≤ k ∧ k < w.heap.size := by
  obtain ⟨cells, h1, _⟩ := h
  exact h1.lt k hk
theorem Own44.len {w : World} {base T : Nat} {v : Value} {c : List (List Q4)} (h : Own44 w base T v c) : ∃ a cap, v = .slice a c.length cap := by
  obtain ⟨cells, h1, h2, _⟩ := h
  rcases h1.2 with ⟨rfl, hn⟩ | ⟨g, cap, cur, rfl, _⟩
  · exact ⟨none, 0, by rw [← h2, hn]⟩
  · exact ⟨_, _, by rw [h2]⟩
theorem ownsRow_span {lo hi : Nat} {w w' : World} {base T size n : Nat} {v : Value} {xs : List Value} (h : w.ownsRow base T size v n xs) (hs : Span lo hi w w') (hlo : lo ≤ base) (hhi : w.heap.size ≤ hi) : w'.ownsRow base T size v n xs := by
  refine ⟨h.1, ?_⟩
  rcases h.2 with hn | ⟨g, cap, cur, rfl, hbg, hgg, rest⟩
  · exact .inl hn
  · refine .inr ⟨g, cap, cur, rfl, hbg, ?_, rest⟩
    have := (Array.getElem?_eq_some_iff.1 hgg).1
    rw [hs.block g (by omega) (by omega)]
    exact hgg
theorem Own44.span {lo hi : Nat} {w w' : World} {base T : Nat} {v : Value} {c : List (List Q4)} (h : Own44 w base T v c) (hs : Span lo hi w w') (hlo : lo ≤ base) (hhi : w.heap.size ≤ hi) : Own44 w' base T v c := by
  obtain ⟨cells, h1, h2, h3⟩ := h
  refine ⟨cells, ownsRow_span h1 hs hlo hhi, h2, fun i hi => ?_⟩
  obtain ⟨vi, e1, e2, e3, e4, e5⟩ := h3 i hi
  refine ⟨vi, e1, e2, e3, fun g hg => ?_, (e5.span (hs.mono hlo hhi)).mono (Nat.le_refl _) hs.size⟩
  have := e4 g hg
  have := hs.size
  exact ⟨by omega, by omega, (e4 g hg).2.2⟩
theorem Own44.rd {w : World} {base T : Nat} {v : Value} {c : List (List Q4)} (h : Own44 w base T v c) : Rd44 base w.heap.size w v c := by
  obtain ⟨cells, h1, h2, h3⟩ := h
  rcases h1.2 with ⟨rfl, hn⟩ | ⟨g, cap, cur, rfl, hbg, hgg, _⟩
  · exact ⟨none, 0, by rw [← h2, hn], fun i hi => by omega⟩
  · refine ⟨_, cap, by rw [h2], fun k hk => ?_⟩
    obtain ⟨vi, e1, e2, e3, e4, e5⟩ := h3 k hk
    refine ⟨g, 0, vi, rfl, hbg, (Array.getElem?_eq_some_iff.1 hgg).1, ?_, e5⟩
    have := h1.cells (g := g) rfl k _ e1
    rw [addr_add0] at this
    rw [Nat.zero_add]
    exact this

/-- 'c = append(c, l)' -/
theorem wpList_push44 {P : Program} {wr : World} {ops : Array Oper} {rest : List Oper} {o : Oper} {a : Act} {Q : Exit → Act → World → Prop} (hgd : o.guard = none) (s x : Operand) (t : TypeId)
    (ho : o.op = .call { callee := .builtin .append, args := #[s, x], argTypes := #[t, t] })
    (base : Nat) (T : TypeId) (ht : P.underlying t = some (.slice T)) (hinfo : (P.info? T).map (fun i => (i.zero, i.size, i.bytes)) = some (some (.slice none 0 0), 1, 24))
    (v : Value) (c : List (List Q4)) (l : List Q4) (vl : Value) (B T4 : Nat) (hl : Own4 wr B T4 vl l) (hB : base ≤ B) (hoff : ∀ k, v.ownBlock = some k → k < B) (hs : a.eval s = v) (hx : a.eval x = .slice (some ⟨wr.heap.size, 0, none⟩) 1 1)
    (hown : Own44 wr base T v c) (hlen : c.length ≤ 1000000000000) (hbase : base ≤ wr.heap.size)
    (h : ∀ v' w', Own44 w' base T v' (c ++ [l]) → Grew wr w' v v' → wpList P ops Q rest (a.put o.dst v') w') :
    wpList P ops Q (o :: rest) a (wr.alloc (.cells #[vl] T)) := by
  obtain ⟨cells, h1, h2, h3⟩ := hown
  have hv1 : vl.oneCell' = true := by
    obtain ⟨a, c, rfl⟩ := hl.len
    rfl
  refine wpList_pushG hgd s x t ho base T (.slice none 0 0) 24 ht hinfo rfl v cells vl hv1 hs hx h1 (by rw [h2]; omega) (by rw [h2]; unfold maxLen; omega) hbase ?_
  intro v' w' k1 k2
  refine h v' w' ⟨_, k1, by simp [h2], fun i hi => ?_⟩ k2
  have rdGrew : ∀ vi li, (∀ g, vi.ownBlock = some g → g < wr.heap.size ∧ v.ownBlock ≠ some g) → Rd4 base wr.heap.size wr vi li → Rd4 base w'.heap.size w' vi li := by
    rintro vi li hne ⟨a, cap, rfl, hh⟩
    refine ⟨a, cap, rfl, fun j hj => ?_⟩
    obtain ⟨b, off, rfl, e2, e3, e4⟩ := hh j hj
    have hb := hne b rfl
    have hblk := k2.block hb.1 hb.2
    refine ⟨b, off, rfl, e2, by have := k2.size; omega, ?_⟩
    exact ⟨(World.cell?_of_block (w := wr) (a := ⟨b, _, none⟩) hblk).trans e4.f0, (World.cell?_of_block (w := wr) (a := ⟨b, _, none⟩) hblk).trans e4.f1, (World.cell?_of_block (w := wr) (a := ⟨b, _, none⟩) hblk).trans e4.f2, (World.cell?_of_block (w := wr) (a := ⟨b, _, none⟩) hblk).trans e4.f3⟩
  by_cases hil : i < c.length
  · obtain ⟨vi, e1, e2, e3, e4, e5⟩ := h3 i hil
    have e6 : (c ++ [l])[i]?.getD [] = c[i]?.getD [] := by rw [List.getElem?_append_left hil]
    rw [e6]
    refine ⟨vi, by rw [List.getElem?_append_left (by omega)]; exact e1, e2, e3, fun g hg => ?_, rdGrew vi _ (fun g hg => (e4 g hg).2) e5⟩
    have := e4 g hg
    exact ⟨this.1, by have := k2.size; omega, k2.off this.2.1 this.2.2⟩
  · have hie : i = c.length := by simp at hi; omega
    have e6 : (c ++ [l])[i]?.getD [] = l := by rw [hie]; simp
    rw [e6]
    have hne : ∀ g, vl.ownBlock = some g → base ≤ g ∧ g < wr.heap.size ∧ v.ownBlock ≠ some g := by
      intro g hg
      have := hl.lt g hg
      exact ⟨by omega, this.2, fun e => by have := hoff g e; omega⟩
    refine ⟨vl, by rw [hie, ← h2]; simp, hv1, by obtain ⟨a, c, rfl⟩ := hl.len; exact ⟨_, _, _, rfl⟩, fun g hg => ?_, rdGrew vl l (fun g hg => (hne g hg).2) ((hl.rd (Nat.le_refl _)).mono hB (Nat.le_refl _))⟩
    have := hne g hg
    exact ⟨this.1, by have := k2.size; omega, k2.off this.2.1 this.2.2⟩

end Go.Proofs.Ytokfiflflcfidab
