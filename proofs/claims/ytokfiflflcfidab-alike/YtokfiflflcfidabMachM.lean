import Derived.Test.YtokfiflflcfidabPlain
import Derived.Test.YtokfiflflcfidabMem
import Derived.WalkKit
import Derived.WalkSpells
import Derived.Deep.QuietTactic
namespace Go.Proofs.Ytokfiflflcfidab
open Go.RowKit

/-- an instruction -/
structure RIns where
  op : Nat
  reg : Nat
  cell : Nat
  val : Nat
def rins0 : RIns := ⟨0, 0, 0, 0⟩
/-- a thread of the machine -/
structure Th where
  pc : Nat
  regs : List Nat
  buf : List RIns
def th0 : Th := ⟨0, [], []⟩
/-- the machine's memory and threads -/
structure MS where
  mem : List Nat
  ths : List Th

def insOf (code : List (List RIns)) (k i : Nat) : RIns := (code[k]?.getD [])[i]?.getD rins0
def thOf (ms : MS) (k : Nat) : Th := ms.ths[k]?.getD th0
/-- can thread k make its next instruction? -/
def canS (code : List (List RIns)) (th : Nat → Th) (k : Nat) : Bool :=
  decide ((th k).pc < (code[k]?.getD []).length) && (!((insOf code k (th k).pc).op == 3) || (th k).buf.isEmpty)

/-- the four cells of an instruction -/
structure InsAt (w : World) (b p : Nat) (x : RIns) : Prop where
  op : w.cell? ⟨b, p, none⟩ = some (.int .i64 (x.op : Int))
  reg : w.cell? ⟨b, p + 1, none⟩ = some (.int .i64 (x.reg : Int))
  cell : w.cell? ⟨b, p + 2, none⟩ = some (.int .i64 (x.cell : Int))
  val : w.cell? ⟨b, p + 3, none⟩ = some (.int .i64 (x.val : Int))
/-- a slice of instructions, not empty -/
def CodeRd (w : World) (v : Value) (l : List RIns) : Prop :=
  0 < l.length ∧ ∃ b off cap, v = .slice (some ⟨b, off, none⟩) l.length cap ∧ b < w.heap.size ∧ ∀ i, i < l.length → InsAt w b (off + i * 4) (l[i]?.getD rins0)
/-- a slice of such slices -/
def CodesRd (w : World) (v : Value) (c : List (List RIns)) : Prop :=
  0 < c.length ∧ ∃ b off cap, v = .slice (some ⟨b, off, none⟩) c.length cap ∧ b < w.heap.size ∧ ∀ k, k < c.length → ∃ vk, w.cell? ⟨b, off + k, none⟩ = some vk ∧ CodeRd w vk (c[k]?.getD [])
theorem InsAt.kept {w w' : World} {b p : Nat} {x : RIns} (h : InsAt w b p x) (hb : Below w.heap.size w w') (hlt : b < w.heap.size) : InsAt w' b p x :=
  ⟨(hb.cell (p := ⟨b, _, none⟩) hlt).trans h.op, (hb.cell (p := ⟨b, _, none⟩) hlt).trans h.reg, (hb.cell (p := ⟨b, _, none⟩) hlt).trans h.cell, (hb.cell (p := ⟨b, _, none⟩) hlt).trans h.val⟩
theorem CodeRd.kept {w w' : World} {v : Value} {l : List RIns} (h : CodeRd w v l) (hb : Below w.heap.size w w') : CodeRd w' v l := by
  obtain ⟨h0, b, off, cap, rfl, h1, h2⟩ := h
  exact ⟨h0, b, off, cap, rfl, Nat.lt_of_lt_of_le h1 hb.size, fun i hi => (h2 i hi).kept hb h1⟩
theorem CodesRd.kept {w w' : World} {v : Value} {c : List (List RIns)} (h : CodesRd w v c) (hb : Below w.heap.size w w') : CodesRd w' v c := by
  obtain ⟨h0, b, off, cap, rfl, h1, h2⟩ := h
  refine ⟨h0, b, off, cap, rfl, Nat.lt_of_lt_of_le h1 hb.size, fun k hk => ?_⟩
  obtain ⟨vk, e1, e2⟩ := h2 k hk
  exact ⟨vk, (hb.cell (p := ⟨b, _, none⟩) h1).trans e1, e2.kept hb⟩

/-- a block of cells of type T, none of them frozen -/
def Blk (w : World) (b T : Nat) : Prop := ∃ cur, w.heap[b]? = some (.cells cur T (0, 0))
theorem Blk.ne {w : World} {a b T T' : Nat} (h : Blk w a T) (k : Blk w b T') (hT : T ≠ T') : a ≠ b := by
  rintro rfl
  obtain ⟨c, h⟩ := h
  obtain ⟨d, k⟩ := k
  rw [h] at k
  simp at k
  exact hT k.2
theorem Blk.lt {w : World} {b T : Nat} (h : Blk w b T) : b < w.heap.size := by
  obtain ⟨c, h⟩ := h
  exact (Array.getElem?_eq_some_iff.1 h).1
theorem Blk.free {w : World} {b T : Nat} (h : Blk w b T) (o : Nat) : w.frozen? ⟨b, o, none⟩ = false := by
  obtain ⟨c, h⟩ := h
  exact frozen_of_row w b o c T h
theorem Blk.set {w : World} {b T : Nat} (h : Blk w b T) (g o : Nat) (u : Value) : Blk (w.setCell ⟨g, o, none⟩ u) b T := by
  obtain ⟨c, h⟩ := h
  by_cases hb : b = g
  · subst hb; exact ⟨_, heap_setCell_same w b o c T u h⟩
  · exact ⟨c, by rw [heap_setCell_other w ⟨g, o, none⟩ b u hb]; exact h⟩
theorem Blk.kept {w w' : World} {b T : Nat} (h : Blk w b T) (hb : Below w.heap.size w w') : Blk w' b T := by
  have := h.lt
  obtain ⟨c, h⟩ := h
  exact ⟨c, by rw [hb.block b this]; exact h⟩
theorem set_ne {w : World} {g o b p : Nat} (u : Value) (h : g ≠ b ∨ o ≠ p) : (w.setCell ⟨g, o, none⟩ u).cell? ⟨b, p, none⟩ = w.cell? ⟨b, p, none⟩ :=
  World.cell?_setCell_other _ _ _ _ (by
    intro e
    simp only [Addr.mk.injEq, and_true] at e
    rcases h with h | h
    · exact h e.1
    · exact h e.2)
theorem set_eq {w : World} {g o : Nat} {x : Value} (u : Value) (h : w.cell? ⟨g, o, none⟩ = some x) : (w.setCell ⟨g, o, none⟩ u).cell? ⟨g, o, none⟩ = some u := World.cell?_setCell_same w ⟨g, o, none⟩ u h

/-- a buffer: nil, or a part of a block of instructions -/
def BufAt (w : World) (v : Value) (l : List RIns) : Prop :=
  (v = .slice none 0 0 ∧ l = []) ∨ ∃ b off cap, v = .slice (some ⟨b, off, none⟩) l.length cap ∧ l.length ≤ cap ∧
    (∀ i, i < l.length → InsAt w b (off + i * 4) (l[i]?.getD rins0)) ∧ ∀ j, j < cap * 4 → (w.cell? ⟨b, off + j, none⟩).isSome = true
theorem BufAt.len {w : World} {v : Value} {l : List RIns} (h : BufAt w v l) : ∃ a c, v = .slice a l.length c := by
  rcases h with ⟨rfl, rfl⟩ | ⟨b, off, cap, rfl, _⟩
  · exact ⟨_, _, rfl⟩
  · exact ⟨_, _, rfl⟩
theorem InsAt.set {w : World} {b p : Nat} {x : RIns} (h : InsAt w b p x) {g o : Nat} (u : Value) (hne : g ≠ b) : InsAt (w.setCell ⟨g, o, none⟩ u) b p x :=
  ⟨(set_ne u (Or.inl hne)).trans h.op, (set_ne u (Or.inl hne)).trans h.reg, (set_ne u (Or.inl hne)).trans h.cell, (set_ne u (Or.inl hne)).trans h.val⟩
theorem BufAt.set {w : World} {v : Value} {l : List RIns} (h : BufAt w v l) {g o : Nat} (u : Value) (hne : v.ownBlock ≠ some g) : BufAt (w.setCell ⟨g, o, none⟩ u) v l := by
  rcases h with h | ⟨b, off, cap, rfl, h1, h2, h3⟩
  · exact Or.inl h
  · have hgb : g ≠ b := fun e => hne (by simp [Value.ownBlock, e])
    exact Or.inr ⟨b, off, cap, rfl, h1, fun i hi => (h2 i hi).set u hgb, fun j hj => by rw [set_ne u (Or.inl hgb)]; exact h3 j hj⟩
theorem BufAt.kept {w w' : World} {v : Value} {l : List RIns} (h : BufAt w v l) (hb : Below w.heap.size w w') (hlt : ∀ b, v.ownBlock = some b → b < w.heap.size) : BufAt w' v l := by
  rcases h with h | ⟨b, off, cap, rfl, h1, h2, h3⟩
  · exact Or.inl h
  · have hl := hlt b rfl
    exact Or.inr ⟨b, off, cap, rfl, h1, fun i hi => (h2 i hi).kept hb hl, fun j hj => by rw [hb.cell (p := ⟨b, _, none⟩) hl]; exact h3 j hj⟩

/-- where the machine's parts lie -/
structure MLoc where
  M : Nat
  gm : Nat
  gt : Nat
  tcap : Nat
  gr : Nat → Nat
  bv : Nat → Value

/-- the machine in memory: n threads th, the cells mem -/
structure MInv (TM TT TI TX : Nat) (w : World) (base : Nat) (L : MLoc) (cv : Value) (model n : Nat) (mem : Nat → Nat) (th : Nat → Th) : Prop where
  types : TM ≠ TT ∧ TM ≠ TI ∧ TM ≠ TX ∧ TT ≠ TI ∧ TT ≠ TX ∧ TI ≠ TX
  bM : base ≤ L.M
  bm : base ≤ L.gm
  bt : base ≤ L.gt
  br : ∀ k, k < n → base ≤ L.gr k
  bb : ∀ k b, k < n → (L.bv k).ownBlock = some b → base ≤ b
  kM : Blk w L.M TM
  km : Blk w L.gm TI
  kt : Blk w L.gt TT
  kr : ∀ k, k < n → Blk w (L.gr k) TI
  kb : ∀ k b, k < n → (L.bv k).ownBlock = some b → Blk w b TX
  c0 : w.cell? ⟨L.M, 0, none⟩ = some cv
  c1 : w.cell? ⟨L.M, 1, none⟩ = some (.int .i64 (model : Int))
  c2 : w.cell? ⟨L.M, 2, none⟩ = some (.slice (some ⟨L.gm, 0, none⟩) 16 16)
  c3 : w.cell? ⟨L.M, 3, none⟩ = some (.slice (some ⟨L.gt, 0, none⟩) n L.tcap)
  cm : ∀ c, c < 16 → w.cell? ⟨L.gm, c, none⟩ = some (.int .i64 ((mem c : Nat) : Int))
  t0 : ∀ k, k < n → w.cell? ⟨L.gt, k * 3, none⟩ = some (.int .i64 (((th k).pc : Nat) : Int))
  t1 : ∀ k, k < n → w.cell? ⟨L.gt, k * 3 + 1, none⟩ = some (.slice (some ⟨L.gr k, 0, none⟩) 16 16)
  t2 : ∀ k, k < n → w.cell? ⟨L.gt, k * 3 + 2, none⟩ = some (L.bv k)
  cr : ∀ k r, k < n → r < 16 → w.cell? ⟨L.gr k, r, none⟩ = some (.int .i64 ((((th k).regs[r]?.getD 0 : Nat)) : Int))
  cb : ∀ k, k < n → BufAt w (L.bv k) (th k).buf
  dmr : ∀ k, k < n → L.gr k ≠ L.gm
  drr : ∀ k j, k < n → j < n → k ≠ j → L.gr k ≠ L.gr j
  dbb : ∀ k j b, k < n → j < n → k ≠ j → (L.bv k).ownBlock = some b → (L.bv j).ownBlock ≠ some b

def updN {α : Type} (f : Nat → α) (k : Nat) (x : α) : Nat → α := fun j => if j = k then x else f j
theorem updN_same {α : Type} (f : Nat → α) (k : Nat) (x : α) : updN f k x k = x := by simp [updN]
theorem updN_other {α : Type} (f : Nat → α) {k j : Nat} (x : α) (h : j ≠ k) : updN f k x j = f j := by simp [updN, h]

section
variable {TM TT TI TX : Nat} {w : World} {base : Nat} {L : MLoc} {cv : Value} {model n : Nat} {mem : Nat → Nat} {th : Nat → Th}

theorem MInv.bvOff (h : MInv TM TT TI TX w base L cv model n mem th) {k g T : Nat} (hk : k < n) (hg : Blk w g T) (hT : TX ≠ T) : (L.bv k).ownBlock ≠ some g := by
  intro e
  exact (h.kb k g hk e).ne hg hT rfl

/-- nothing but new blocks -/
theorem MInv.kept (h : MInv TM TT TI TX w base L cv model n mem th) {w' : World} (hb : Below w.heap.size w w') : MInv TM TT TI TX w' base L cv model n mem th where
  types := h.types
  bM := h.bM
  bm := h.bm
  bt := h.bt
  br := h.br
  bb := h.bb
  kM := h.kM.kept hb
  km := h.km.kept hb
  kt := h.kt.kept hb
  kr := fun k hk => (h.kr k hk).kept hb
  kb := fun k b hk e => (h.kb k b hk e).kept hb
  c0 := (hb.cell (p := ⟨L.M, 0, none⟩) h.kM.lt).trans h.c0
  c1 := (hb.cell (p := ⟨L.M, 1, none⟩) h.kM.lt).trans h.c1
  c2 := (hb.cell (p := ⟨L.M, 2, none⟩) h.kM.lt).trans h.c2
  c3 := (hb.cell (p := ⟨L.M, 3, none⟩) h.kM.lt).trans h.c3
  cm := fun c hc => (hb.cell (p := ⟨L.gm, c, none⟩) h.km.lt).trans (h.cm c hc)
  t0 := fun k hk => (hb.cell (p := ⟨L.gt, _, none⟩) h.kt.lt).trans (h.t0 k hk)
  t1 := fun k hk => (hb.cell (p := ⟨L.gt, _, none⟩) h.kt.lt).trans (h.t1 k hk)
  t2 := fun k hk => (hb.cell (p := ⟨L.gt, _, none⟩) h.kt.lt).trans (h.t2 k hk)
  cr := fun k r hk hr => (hb.cell (p := ⟨L.gr k, r, none⟩) (h.kr k hk).lt).trans (h.cr k r hk hr)
  cb := fun k hk => (h.cb k hk).kept hb fun b e => (h.kb k b hk e).lt
  dmr := h.dmr
  drr := h.drr
  dbb := h.dbb

/-- a number into a cell of the machine's memory -/
theorem MInv.setMem (h : MInv TM TT TI TX w base L cv model n mem th) {c : Nat} (hc : c < 16) (v : Nat) : MInv TM TT TI TX (w.setCell ⟨L.gm, c, none⟩ (.int .i64 (v : Int))) base L cv model n (updN mem c v) th := by
  obtain ⟨y1, y2, y3, y4, y5, y6⟩ := h.types
  have eM := h.km.ne h.kM (Ne.symm y2)
  have et := h.km.ne h.kt (Ne.symm y4)
  exact {
    types := h.types
    bM := h.bM, bm := h.bm, bt := h.bt, br := h.br, bb := h.bb
    kM := h.kM.set _ _ _, km := h.km.set _ _ _, kt := h.kt.set _ _ _, kr := fun k hk => (h.kr k hk).set _ _ _, kb := fun k b hk e => (h.kb k b hk e).set _ _ _
    c0 := (set_ne _ (Or.inl eM)).trans h.c0, c1 := (set_ne _ (Or.inl eM)).trans h.c1, c2 := (set_ne _ (Or.inl eM)).trans h.c2, c3 := (set_ne _ (Or.inl eM)).trans h.c3
    cm := fun d hd => by
      by_cases hdc : d = c
      · subst hdc; rw [updN_same]; exact set_eq _ (h.cm d hd)
      · rw [updN_other _ _ hdc]; exact (set_ne _ (Or.inr (Ne.symm hdc))).trans (h.cm d hd)
    t0 := fun k hk => (set_ne _ (Or.inl et)).trans (h.t0 k hk), t1 := fun k hk => (set_ne _ (Or.inl et)).trans (h.t1 k hk), t2 := fun k hk => (set_ne _ (Or.inl et)).trans (h.t2 k hk)
    cr := fun k r hk hr => (set_ne _ (Or.inl (Ne.symm (h.dmr k hk)))).trans (h.cr k r hk hr)
    cb := fun k hk => (h.cb k hk).set _ (h.bvOff hk h.km (Ne.symm y6))
    dmr := h.dmr, drr := h.drr, dbb := h.dbb }

/-- thread k's place in its code -/
theorem MInv.setPc (h : MInv TM TT TI TX w base L cv model n mem th) {k : Nat} (hk : k < n) (p : Nat) : MInv TM TT TI TX (w.setCell ⟨L.gt, k * 3, none⟩ (.int .i64 (p : Int))) base L cv model n mem (updN th k { th k with pc := p }) := by
  obtain ⟨y1, y2, y3, y4, y5, y6⟩ := h.types
  have eM := h.kt.ne h.kM (Ne.symm y1)
  have em := h.kt.ne h.km y4
  exact {
    types := h.types
    bM := h.bM, bm := h.bm, bt := h.bt, br := h.br, bb := h.bb
    kM := h.kM.set _ _ _, km := h.km.set _ _ _, kt := h.kt.set _ _ _, kr := fun k hk => (h.kr k hk).set _ _ _, kb := fun k b hk e => (h.kb k b hk e).set _ _ _
    c0 := (set_ne _ (Or.inl eM)).trans h.c0, c1 := (set_ne _ (Or.inl eM)).trans h.c1, c2 := (set_ne _ (Or.inl eM)).trans h.c2, c3 := (set_ne _ (Or.inl eM)).trans h.c3
    cm := fun d hd => (set_ne _ (Or.inl em)).trans (h.cm d hd)
    t0 := fun j hj => by
      by_cases hjk : j = k
      · subst hjk; rw [updN_same]; exact set_eq _ (h.t0 j hj)
      · rw [updN_other _ _ hjk]; exact (set_ne _ (Or.inr (by omega))).trans (h.t0 j hj)
    t1 := fun j hj => (set_ne _ (Or.inr (by omega))).trans (h.t1 j hj), t2 := fun j hj => (set_ne _ (Or.inr (by omega))).trans (h.t2 j hj)
    cr := fun j r hj hr => by
      have : (updN th k { th k with pc := p } j).regs = (th j).regs := by
        by_cases hjk : j = k
        · subst hjk; rw [updN_same]
        · rw [updN_other _ _ hjk]
      rw [this]
      exact (set_ne _ (Or.inl (h.kt.ne (h.kr j hj) y4))).trans (h.cr j r hj hr)
    cb := fun j hj => by
      have : (updN th k { th k with pc := p } j).buf = (th j).buf := by
        by_cases hjk : j = k
        · subst hjk; rw [updN_same]
        · rw [updN_other _ _ hjk]
      rw [this]
      exact (h.cb j hj).set _ (h.bvOff hj h.kt (Ne.symm y5))
    dmr := h.dmr, drr := h.drr, dbb := h.dbb }

/-- a register of thread k -/
theorem MInv.setReg (h : MInv TM TT TI TX w base L cv model n mem th) {k r : Nat} (hk : k < n) (hr : r < 16) (hl : (th k).regs.length = 16) (v : Nat) : MInv TM TT TI TX (w.setCell ⟨L.gr k, r, none⟩ (.int .i64 (v : Int))) base L cv model n mem (updN th k { th k with regs := (th k).regs.set r v }) := by
  obtain ⟨y1, y2, y3, y4, y5, y6⟩ := h.types
  have kk := h.kr k hk
  have eM := kk.ne h.kM (Ne.symm y2)
  have et := kk.ne h.kt (Ne.symm y4)
  exact {
    types := h.types
    bM := h.bM, bm := h.bm, bt := h.bt, br := h.br, bb := h.bb
    kM := h.kM.set _ _ _, km := h.km.set _ _ _, kt := h.kt.set _ _ _, kr := fun k hk => (h.kr k hk).set _ _ _, kb := fun k b hk e => (h.kb k b hk e).set _ _ _
    c0 := (set_ne _ (Or.inl eM)).trans h.c0, c1 := (set_ne _ (Or.inl eM)).trans h.c1, c2 := (set_ne _ (Or.inl eM)).trans h.c2, c3 := (set_ne _ (Or.inl eM)).trans h.c3
    cm := fun d hd => (set_ne _ (Or.inl (h.dmr k hk))).trans (h.cm d hd)
    t0 := fun j hj => by
      have : (updN th k { th k with regs := (th k).regs.set r v } j).pc = (th j).pc := by
        by_cases hjk : j = k
        · subst hjk; rw [updN_same]
        · rw [updN_other _ _ hjk]
      rw [this]
      exact (set_ne _ (Or.inl et)).trans (h.t0 j hj)
    t1 := fun j hj => (set_ne _ (Or.inl et)).trans (h.t1 j hj), t2 := fun j hj => (set_ne _ (Or.inl et)).trans (h.t2 j hj)
    cr := fun j q hj hq => by
      by_cases hjk : j = k
      · subst hjk
        rw [updN_same]
        by_cases hqr : q = r
        · subst hqr
          have : ((th j).regs.set q v)[q]?.getD 0 = v := by simp [hl, hq]
          rw [this]
          exact set_eq _ (h.cr j q hj hq)
        · have : ((th j).regs.set r v)[q]?.getD 0 = (th j).regs[q]?.getD 0 := by rw [List.getElem?_set_ne (Ne.symm hqr)]
          show _ = some (Value.int .i64 (((((th j).regs.set r v)[q]?.getD 0 : Nat)) : Int))
          rw [this]
          exact (set_ne _ (Or.inr (Ne.symm hqr))).trans (h.cr j q hj hq)
      · rw [updN_other _ _ hjk]
        exact (set_ne _ (Or.inl (h.drr k j hk hj (Ne.symm hjk)))).trans (h.cr j q hj hq)
    cb := fun j hj => by
      have : (updN th k { th k with regs := (th k).regs.set r v } j).buf = (th j).buf := by
        by_cases hjk : j = k
        · subst hjk; rw [updN_same]
        · rw [updN_other _ _ hjk]
      rw [this]
      exact (h.cb j hj).set _ (h.bvOff hj kk (Ne.symm y6))
    dmr := h.dmr, drr := h.drr, dbb := h.dbb }

/-- thread k's buffer -/
theorem MInv.setBuf (h : MInv TM TT TI TX w base L cv model n mem th) {k : Nat} (hk : k < n) (v : Value) (l : List RIns) (hv : BufAt w v l)
    (hown : ∀ b, v.ownBlock = some b → Blk w b TX ∧ base ≤ b ∧ ∀ j, j < n → j ≠ k → (L.bv j).ownBlock ≠ some b) :
    MInv TM TT TI TX (w.setCell ⟨L.gt, k * 3 + 2, none⟩ v) base { L with bv := updN L.bv k v } cv model n mem (updN th k { th k with buf := l }) := by
  obtain ⟨y1, y2, y3, y4, y5, y6⟩ := h.types
  have eM := h.kt.ne h.kM (Ne.symm y1)
  have em := h.kt.ne h.km y4
  have hvo : v.ownBlock ≠ some L.gt := fun e => (hown _ e).1.ne h.kt (Ne.symm y5) rfl
  exact {
    types := h.types
    bM := h.bM, bm := h.bm, bt := h.bt, br := h.br
    bb := fun j b hj e => by
      by_cases hjk : j = k
      · subst hjk; dsimp only at e; rw [updN_same] at e; exact (hown b e).2.1
      · dsimp only at e; rw [updN_other _ _ hjk] at e; exact h.bb j b hj e
    kM := h.kM.set _ _ _, km := h.km.set _ _ _, kt := h.kt.set _ _ _, kr := fun k hk => (h.kr k hk).set _ _ _
    kb := fun j b hj e => by
      by_cases hjk : j = k
      · subst hjk; dsimp only at e; rw [updN_same] at e; exact (hown b e).1.set _ _ _
      · dsimp only at e; rw [updN_other _ _ hjk] at e; exact (h.kb j b hj e).set _ _ _
    c0 := (set_ne _ (Or.inl eM)).trans h.c0, c1 := (set_ne _ (Or.inl eM)).trans h.c1, c2 := (set_ne _ (Or.inl eM)).trans h.c2, c3 := (set_ne _ (Or.inl eM)).trans h.c3
    cm := fun d hd => (set_ne _ (Or.inl em)).trans (h.cm d hd)
    t0 := fun j hj => by
      have : (updN th k { th k with buf := l } j).pc = (th j).pc := by
        by_cases hjk : j = k
        · subst hjk; rw [updN_same]
        · rw [updN_other _ _ hjk]
      rw [this]
      exact (set_ne _ (Or.inr (by omega))).trans (h.t0 j hj)
    t1 := fun j hj => (set_ne _ (Or.inr (by omega))).trans (h.t1 j hj)
    t2 := fun j hj => by
      by_cases hjk : j = k
      · subst hjk; dsimp only; rw [updN_same]; exact set_eq _ (h.t2 j hj)
      · dsimp only; rw [updN_other _ _ hjk]; exact (set_ne _ (Or.inr (by omega))).trans (h.t2 j hj)
    cr := fun j r hj hr => by
      have : (updN th k { th k with buf := l } j).regs = (th j).regs := by
        by_cases hjk : j = k
        · subst hjk; rw [updN_same]
        · rw [updN_other _ _ hjk]
      rw [this]
      exact (set_ne _ (Or.inl (h.kt.ne (h.kr j hj) y4))).trans (h.cr j r hj hr)
    cb := fun j hj => by
      by_cases hjk : j = k
      · subst hjk; dsimp only; rw [updN_same, updN_same]; exact hv.set _ hvo
      · dsimp only; rw [updN_other _ _ hjk, updN_other _ _ hjk]; exact (h.cb j hj).set _ (h.bvOff hj h.kt (Ne.symm y5))
    dmr := h.dmr, drr := h.drr
    dbb := fun i j b hi hj hij e => by
      dsimp only at e ⊢
      by_cases hik : i = k
      · subst hik
        rw [updN_same] at e
        rw [updN_other _ _ (Ne.symm hij)]
        exact (hown b e).2.2 j hj (Ne.symm hij)
      · rw [updN_other _ _ hik] at e
        by_cases hjk : j = k
        · subst hjk
          rw [updN_same]
          intro e2
          exact (hown b e2).2.2 i hi hik e
        · rw [updN_other _ _ hjk]; exact h.dbb i j b hi hj hij e }

/-- a word into a place of thread k's buffer's block that no instruction of the buffer uses -/
theorem MInv.setSpare (h : MInv TM TT TI TX w base L cv model n mem th) {k b o : Nat} (hk : k < n) (hb : (L.bv k).ownBlock = some b) (u : Value)
    (hc : BufAt (w.setCell ⟨b, o, none⟩ u) (L.bv k) (th k).buf) : MInv TM TT TI TX (w.setCell ⟨b, o, none⟩ u) base L cv model n mem th := by
  obtain ⟨y1, y2, y3, y4, y5, y6⟩ := h.types
  have kk := h.kb k b hk hb
  have eM := kk.ne h.kM (Ne.symm y3)
  have em := kk.ne h.km (Ne.symm y6)
  have et := kk.ne h.kt (Ne.symm y5)
  exact {
    types := h.types
    bM := h.bM, bm := h.bm, bt := h.bt, br := h.br, bb := h.bb
    kM := h.kM.set _ _ _, km := h.km.set _ _ _, kt := h.kt.set _ _ _, kr := fun k hk => (h.kr k hk).set _ _ _, kb := fun k b hk e => (h.kb k b hk e).set _ _ _
    c0 := (set_ne _ (Or.inl eM)).trans h.c0, c1 := (set_ne _ (Or.inl eM)).trans h.c1, c2 := (set_ne _ (Or.inl eM)).trans h.c2, c3 := (set_ne _ (Or.inl eM)).trans h.c3
    cm := fun d hd => (set_ne _ (Or.inl em)).trans (h.cm d hd)
    t0 := fun j hj => (set_ne _ (Or.inl et)).trans (h.t0 j hj), t1 := fun j hj => (set_ne _ (Or.inl et)).trans (h.t1 j hj), t2 := fun j hj => (set_ne _ (Or.inl et)).trans (h.t2 j hj)
    cr := fun j r hj hr => (set_ne _ (Or.inl (kk.ne (h.kr j hj) (Ne.symm y6)))).trans (h.cr j r hj hr)
    cb := fun j hj => by
      by_cases hjk : j = k
      · subst hjk; exact hc
      · exact (h.cb j hj).set _ (h.dbb k j b hk hj (Ne.symm hjk) hb)
    dmr := h.dmr, drr := h.drr, dbb := h.dbb }
end

theorem MInv.drew {TM TT TI TX : Nat} {w : World} {base : Nat} {L : MLoc} {cv : Value} {model n : Nat} {mem : Nat → Nat} {th : Nat → Th} (h : MInv TM TT TI TX w base L cv model n mem th) (m : Nat) : MInv TM TT TI TX (w.drewN m) base L cv model n mem th :=
  h.kept ⟨rfl, rfl, rfl, Nat.le_refl _, fun _ _ => rfl⟩
theorem CodesRd.drew {w : World} {v : Value} {c : List (List RIns)} (h : CodesRd w v c) (m : Nat) : CodesRd (w.drewN m) v c := h.kept ⟨rfl, rfl, rfl, Nat.le_refl _, fun _ _ => rfl⟩

/-- sound code -/
def SndC (code : List (List RIns)) : Prop :=
  0 < code.length ∧ code.length ≤ 16 ∧ ∀ k, k < code.length → 0 < (code[k]?.getD []).length ∧ (code[k]?.getD []).length ≤ 32 ∧
    ∀ i, i < (code[k]?.getD []).length → (insOf code k i).reg < 16 ∧ (insOf code k i).cell < 16 ∧ ((insOf code k i).op = 1 ∨ (insOf code k i).op = 2 ∨ (insOf code k i).op = 3)
/-- a state that the machine can be in -/
def MOk (code : List (List RIns)) (th : Nat → Th) : Prop :=
  ∀ k, k < code.length → (th k).pc ≤ (code[k]?.getD []).length ∧ (th k).regs.length = 16 ∧ (th k).buf.length ≤ (th k).pc ∧ ∀ i, i < (th k).buf.length → ((th k).buf[i]?.getD rins0).cell < 16

/-- the moves of the threads below k: the thread; does it drain? -/
def mvTo (code : List (List RIns)) (th : Nat → Th) : Nat → List (Nat × Bool)
  | 0 => []
  | k + 1 => (mvTo code th k ++ if canS code th k then [(k, false)] else []) ++ if (th k).buf.isEmpty then [] else [(k, true)]
def mvs (code : List (List RIns)) (th : Nat → Th) : List (Nat × Bool) := mvTo code th code.length
theorem mvTo_length (code : List (List RIns)) (th : Nat → Th) (k : Nat) : (mvTo code th k).length ≤ 2 * k := by
  induction k with
  | zero => simp [mvTo]
  | succ k ih =>
    simp only [mvTo, List.length_append]
    have h1 : (if canS code th k = true then [(k, false)] else []).length ≤ 1 := by split <;> simp
    have h2 : (if (th k).buf.isEmpty = true then [] else [(k, true)]).length ≤ 1 := by split <;> simp
    omega
/-- the youngest store of cell c among the first i of a buffer -/
def ldTo (buf : List RIns) (c : Nat) : Nat → Option Nat
  | 0 => none
  | i + 1 => if (buf[i]?.getD rins0).cell = c then some (buf[i]?.getD rins0).val else ldTo buf c i
def loadS (mem : Nat → Nat) (th : Nat → Th) (k c : Nat) : Nat := (ldTo (th k).buf c (th k).buf.length).getD (mem c)

end Go.Proofs.Ytokfiflflcfidab
