import Derived.WalkKit
import Derived.WalkSpells
namespace Go.Proofs.Ytokfiflflcfidab
open Go.RowKit

/-- the cells of a row of numbers -/
def nums (l : List Nat) : List Value := l.map fun e : Nat => Value.int .i64 (e : Int)

/-- the slice that begins at ⟨b, off⟩ holds the numbers l -/
def Arr (w : World) (b off : Nat) (l : List Nat) : Prop :=
  b < w.heap.size ∧ ∀ k, k < l.length → w.cell? ⟨b, off + k, none⟩ = some (.int .i64 ((l[k]?.getD 0 : Nat) : Int))

/-- v owns the numbers l, among the blocks from base on -/
def Own (w : World) (base T : Nat) (v : Value) (l : List Nat) : Prop := w.ownsRow base T 1 v l.length (nums l)

theorem Arr.at {w : World} {b off : Nat} {l : List Nat} (h : Arr w b off l) {k : Nat} (hk : k < l.length) : w.cell? ⟨b, off + k, none⟩ = some (.int .i64 ((l[k]?.getD 0 : Nat) : Int)) := h.2 k hk

theorem Arr.at0 {w : World} {b : Nat} {l : List Nat} (h : Arr w b 0 l) {k : Nat} (hk : k < l.length) : w.cell? ⟨b, k, none⟩ = some (.int .i64 ((l[k]?.getD 0 : Nat) : Int)) := by
  have := h.2 k hk
  rwa [Nat.zero_add] at this

theorem Arr.below {w w' : World} {B b off : Nat} {l : List Nat} (h : Arr w b off l) (hb : Below B w w') (hB : b < B) : Arr w' b off l :=
  ⟨Nat.lt_of_lt_of_le h.1 hb.size, fun k hk => (hb.cell (p := ⟨b, off + k, none⟩) hB).trans (h.2 k hk)⟩

theorem Arr.kept {w w' : World} {b off : Nat} {l : List Nat} (h : Arr w b off l) (hb : Below w.heap.size w w') : Arr w' b off l := h.below hb h.1

theorem Own.nil (w : World) (base T : Nat) : Own w base T (.slice none 0 0) [] := World.ownsRow_nil w base T 1

theorem ownsRow_kept {w w' : World} {base T size n : Nat} {v : Value} {xs : List Value} (h : w.ownsRow base T size v n xs) (hb : Below w.heap.size w w') : w'.ownsRow base T size v n xs := by
  refine ⟨h.1, ?_⟩
  rcases h.2 with hn | ⟨g, cap, cur, rfl, hbg, hgg, rest⟩
  · exact .inl hn
  · refine .inr ⟨g, cap, cur, rfl, hbg, ?_, rest⟩
    rw [hb.block g (Array.getElem?_eq_some_iff.1 hgg).1]
    exact hgg

theorem Own.kept {w w' : World} {base T : Nat} {v : Value} {l : List Nat} (h : Own w base T v l) (hb : Below w.heap.size w w') : Own w' base T v l := ownsRow_kept h hb

theorem Own.rebase {w : World} {base base' T : Nat} {v : Value} {l : List Nat} (h : Own w base T v l) (hb : base' ≤ base) : Own w base' T v l := by
  refine ⟨h.1, ?_⟩
  rcases h.2 with hn | ⟨g, cap, cur, rfl, hbg, rest⟩
  · exact .inl hn
  · exact .inr ⟨g, cap, cur, rfl, by omega, rest⟩

theorem Own.shape {w : World} {base T : Nat} {v : Value} {l : List Nat} (h : Own w base T v l) (hl : 0 < l.length) :
    ∃ g cap, v = .slice (some ⟨g, 0, none⟩) l.length cap ∧ base ≤ g ∧ Arr w g 0 l := by
  have h' := h
  rcases h.2 with ⟨_, hn⟩ | ⟨g, cap, cur, rfl, hbg, hgg, _⟩
  · omega
  · refine ⟨g, cap, rfl, hbg, (Array.getElem?_eq_some_iff.1 hgg).1, fun k hk => ?_⟩
    have := h'.cells (g := g) rfl k (.int .i64 ((l[k]?.getD 0 : Nat) : Int)) (by simp [nums, hk])
    have hadd : (⟨g, 0, none⟩ : Addr).add k = ⟨g, 0 + k, none⟩ := by unfold Addr.add; split <;> simp_all
    rw [hadd] at this
    exact this

/-- behind an append to what is owned from base on nothing below base has turned -/
theorem Own.grown {w0 w w1 : World} {B base T : Nat} {v : Value} {l : List Nat} (h : Own w base T v l) (hb : Below B w0 w) (hB : B ≤ w.heap.size) (hbase : B ≤ base) (hg : w.grownBy w1 v.ownBlock) : Below B w0 w1 :=
  hb.grown hg hB (fun k hk => Nat.le_trans hbase (h.lt k hk).1)

/-- a slice's length -/
def lenV : Value → Nat | .slice _ n _ => n | _ => 0
theorem Own.lenV {w : World} {base T : Nat} {v : Value} {l : List Nat} (h : Own w base T v l) : lenV v = l.length := by
  rcases h.2 with ⟨rfl, hn⟩ | ⟨g, cap, cur, rfl, _⟩
  · exact hn.symm
  · rfl

/-- a row of one element, just laid -/
theorem one_new (w : World) (T : Nat) (u : Value) (j : Nat) (x : Value) (h : [u][j]? = some x) : (w.alloc (.cells #[u] T)).cell? ((⟨w.heap.size, 0, none⟩ : Addr).add j) = some x := by
  match j, h with
  | 0, h => simp at h; subst h; simp [Addr.add]

/-- 'l = append(l, u)', l of the call's own: one element of one cell -/
theorem wpList_push {P : Program} {wr : World} {ops : Array Oper} {rest : List Oper} {o : Oper} {a : Act} {Q : Exit → Act → World → Prop} (hgd : o.guard = none) (s x : Operand) (t : TypeId)
    (ho : o.op = .call { callee := .builtin .append, args := #[s, x], argTypes := #[t, t] })
    (B base : Nat) (w0 : World) (T : TypeId) (z : Value) (bytes : Nat) (ht : P.underlying t = some (.slice T)) (hinfo : (P.info? T).map (fun i => (i.zero, i.size, i.bytes)) = some (some z, 1, bytes)) (hz : z.cells.size = 1)
    (v : Value) (xs : List Value) (u : Value) (hu : u.oneCell' = true) (hs : a.eval s = v) (hx : a.eval x = .slice (some ⟨wr.heap.size, 0, none⟩) 1 1)
    (hown : wr.ownsRow base T 1 v xs.length xs) (hlen : (xs.length + 1) * bytes ≤ 140737488355328) (hmax : xs.length + 1 ≤ maxLen) (hb : Below B w0 wr) (hB : B ≤ base) (hbase : base ≤ wr.heap.size)
    (h : ∀ v' w', w'.ownsRow base T 1 v' (xs ++ [u]).length (xs ++ [u]) → Below B w0 w' → wr.heap.size < w'.heap.size → wpList P ops Q rest (a.put o.dst v') w') :
    wpList P ops Q (o :: rest) a (wr.alloc (.cells #[u] T)) := by
  obtain ⟨i0, hi, hz0, hz1, hz2⟩ := info_parts hinfo
  refine wpList_append_own _ hgd s x t ho base T i0 z 1 bytes ht hi hz0 hz1 hz2 hz (by decide) v xs.length xs hs (hown.alloc _) ⟨wr.heap.size, 0, none⟩ 1 1 [u] hx rfl (one_new wr T u) ?_ hmax hlen ?_ ?_
  · intro y hy; simp at hy; subst hy; exact hu
  · simp; omega
  · intro v' w' h1 h2 _
    refine h v' w' ?_ ?_ ?_
    · simpa using h1
    · refine (hb.alloc (by omega) _).grown h2 (by simp; omega) (fun k hk => ?_)
      have := (hown.lt k hk).1
      omega
    · have := h2.size
      simp at this
      omega

theorem nums_length (l : List Nat) : (nums l).length = l.length := by simp [nums]

/-- the same of numbers -/
theorem wpList_pushN {P : Program} {wr : World} {ops : Array Oper} {rest : List Oper} {o : Oper} {a : Act} {Q : Exit → Act → World → Prop} (hgd : o.guard = none) (s x : Operand) (t : TypeId)
    (ho : o.op = .call { callee := .builtin .append, args := #[s, x], argTypes := #[t, t] })
    (B base : Nat) (w0 : World) (T : TypeId) (ht : P.underlying t = some (.slice T)) (hinfo : (P.info? T).map (fun i => (i.zero, i.size, i.bytes)) = some (some (.int .i64 0), 1, 8))
    (v : Value) (l : List Nat) (e : Nat) (hs : a.eval s = v) (hx : a.eval x = .slice (some ⟨wr.heap.size, 0, none⟩) 1 1)
    (hown : Own wr base T v l) (hlen : l.length ≤ 1000000) (hb : Below B w0 wr) (hB : B ≤ base) (hbase : base ≤ wr.heap.size)
    (h : ∀ v' w', Own w' base T v' (l ++ [e]) → Below B w0 w' → wr.heap.size < w'.heap.size → wpList P ops Q rest (a.put o.dst v') w') :
    wpList P ops Q (o :: rest) a (wr.alloc (.cells #[.int .i64 (e : Int)] T)) := by
  have hown2 : wr.ownsRow base T 1 v (nums l).length (nums l) := by rw [nums_length]; exact hown
  refine wpList_push hgd s x t ho B base w0 T (.int .i64 0) 8 ht hinfo rfl v (nums l) (.int .i64 (e : Int)) rfl hs hx hown2 ?_ ?_ hb hB hbase ?_
  · rw [nums_length]; omega
  · rw [nums_length]; unfold maxLen; omega
  · intro v' w' h1 h2 h3
    refine h v' w' ?_ h2 h3
    have e1 : nums l ++ [.int .i64 (e : Int)] = nums (l ++ [e]) := by simp [nums]
    rw [e1, nums_length] at h1
    exact h1

end Go.Proofs.Ytokfiflflcfidab
