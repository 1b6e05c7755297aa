import Derived.Test.YtokfiflflcfidabMachM
import Derived.Deep.RegionLawGrows
namespace Go.Proofs.Ytokfiflflcfidab
open Go.RowKit

/-- a store that waits: two cells -/
structure HeldAt (w : World) (b p : Nat) (x : RIns) : Prop where
  cell : w.cell? ⟨b, p, none⟩ = some (.int .i64 (x.cell : Int))
  val : w.cell? ⟨b, p + 1, none⟩ = some (.int .i64 (x.val : Int))
def Buf2 (w : World) (v : Value) (l : List RIns) : Prop :=
  (v = .slice none 0 0 ∧ l = []) ∨ ∃ b off cap, v = .slice (some ⟨b, off, none⟩) l.length cap ∧ l.length ≤ cap ∧
    (∀ i, i < l.length → HeldAt w b (off + i * 2) (l[i]?.getD rins0)) ∧ ∀ j, j < cap * 2 → (w.cell? ⟨b, off + j, none⟩).isSome = true
theorem Buf2.len {w : World} {v : Value} {l : List RIns} (h : Buf2 w v l) : ∃ a c, v = .slice a l.length c := by
  rcases h with ⟨rfl, rfl⟩ | ⟨b, off, cap, rfl, _⟩
  · exact ⟨_, _, rfl⟩
  · exact ⟨_, _, rfl⟩
theorem HeldAt.set {w : World} {b p : Nat} {x : RIns} (h : HeldAt w b p x) {g o : Nat} (u : Value) (hne : g ≠ b) : HeldAt (w.setCell ⟨g, o, none⟩ u) b p x :=
  ⟨(set_ne u (Or.inl hne)).trans h.cell, (set_ne u (Or.inl hne)).trans h.val⟩
theorem HeldAt.kept {w w' : World} {b p : Nat} {x : RIns} (h : HeldAt w b p x) (hb : Below w.heap.size w w') (hlt : b < w.heap.size) : HeldAt w' b p x :=
  ⟨(hb.cell (p := ⟨b, _, none⟩) hlt).trans h.cell, (hb.cell (p := ⟨b, _, none⟩) hlt).trans h.val⟩
theorem Buf2.set {w : World} {v : Value} {l : List RIns} (h : Buf2 w v l) {g o : Nat} (u : Value) (hne : v.ownBlock ≠ some g) : Buf2 (w.setCell ⟨g, o, none⟩ u) v l := by
  rcases h with h | ⟨b, off, cap, rfl, h1, h2, h3⟩
  · exact Or.inl h
  · have hgb : g ≠ b := fun e => hne (by simp [Value.ownBlock, e])
    exact Or.inr ⟨b, off, cap, rfl, h1, fun i hi => (h2 i hi).set u hgb, fun j hj => by rw [set_ne u (Or.inl hgb)]; exact h3 j hj⟩
theorem Buf2.kept {w w' : World} {v : Value} {l : List RIns} (h : Buf2 w v l) (hb : Below w.heap.size w w') (hlt : ∀ b, v.ownBlock = some b → b < w.heap.size) : Buf2 w' v l := by
  rcases h with h | ⟨b, off, cap, rfl, h1, h2, h3⟩
  · exact Or.inl h
  · have hl := hlt b rfl
    exact Or.inr ⟨b, off, cap, rfl, h1, fun i hi => (h2 i hi).kept hb hl, fun j hj => by rw [hb.cell (p := ⟨b, _, none⟩) hl]; exact h3 j hj⟩

/-- where the program's machine lies -/
structure PLoc where
  M : Nat
  gt : Nat
  tcap : Nat
  bv : Nat → Value

/-- the program's machine in memory: n threads th, the cells mem -/
structure PInv (TM TT TX : Nat) (w : World) (base : Nat) (L : PLoc) (model n : Nat) (mem : Nat → Nat) (th : Nat → Th) : Prop where
  types : TM ≠ TT ∧ TM ≠ TX ∧ TT ≠ TX
  bM : base ≤ L.M
  bt : base ≤ L.gt
  bb : ∀ k b, k < n → (L.bv k).ownBlock = some b → base ≤ b
  kM : Blk w L.M TM
  kt : Blk w L.gt TT
  kb : ∀ k b, k < n → (L.bv k).ownBlock = some b → Blk w b TX
  c0 : w.cell? ⟨L.M, 0, none⟩ = some (.int .i64 (model : Int))
  c1 : w.cell? ⟨L.M, 1, none⟩ = some (.slice (some ⟨L.gt, 0, none⟩) n L.tcap)
  cm : ∀ c, c < 16 → w.cell? ⟨L.M, 2 + c, none⟩ = some (.int .i64 ((mem c : Nat) : Int))
  t0 : ∀ k, k < n → w.cell? ⟨L.gt, k * 18, none⟩ = some (.int .i64 (((th k).pc : Nat) : Int))
  tr : ∀ k r, k < n → r < 16 → w.cell? ⟨L.gt, k * 18 + 1 + r, none⟩ = some (.int .i64 ((((th k).regs[r]?.getD 0 : Nat)) : Int))
  t2 : ∀ k, k < n → w.cell? ⟨L.gt, k * 18 + 17, none⟩ = some (L.bv k)
  cb : ∀ k, k < n → Buf2 w (L.bv k) (th k).buf
  dbb : ∀ k j b, k < n → j < n → k ≠ j → (L.bv k).ownBlock = some b → (L.bv j).ownBlock ≠ some b

section
variable {TM TT TX : Nat} {w : World} {base : Nat} {L : PLoc} {model n : Nat} {mem : Nat → Nat} {th : Nat → Th}

theorem PInv.bvOff (h : PInv TM TT TX w base L model n mem th) {k g T : Nat} (hk : k < n) (hg : Blk w g T) (hT : TX ≠ T) : (L.bv k).ownBlock ≠ some g := by
  intro e
  exact (h.kb k g hk e).ne hg hT rfl
theorem PInv.size (h : PInv TM TT TX w base L model n mem th) : base ≤ w.heap.size := Nat.le_of_lt (Nat.lt_of_le_of_lt h.bM h.kM.lt)

/-- nothing but new blocks -/
theorem PInv.kept (h : PInv TM TT TX w base L model n mem th) {w' : World} (hb : Below w.heap.size w w') : PInv TM TT TX w' base L model n mem th where
  types := h.types
  bM := h.bM
  bt := h.bt
  bb := h.bb
  kM := h.kM.kept hb
  kt := h.kt.kept hb
  kb := fun k b hk e => (h.kb k b hk e).kept hb
  c0 := (hb.cell (p := ⟨L.M, 0, none⟩) h.kM.lt).trans h.c0
  c1 := (hb.cell (p := ⟨L.M, 1, none⟩) h.kM.lt).trans h.c1
  cm := fun c hc => (hb.cell (p := ⟨L.M, _, none⟩) h.kM.lt).trans (h.cm c hc)
  t0 := fun k hk => (hb.cell (p := ⟨L.gt, _, none⟩) h.kt.lt).trans (h.t0 k hk)
  tr := fun k r hk hr => (hb.cell (p := ⟨L.gt, _, none⟩) h.kt.lt).trans (h.tr k r hk hr)
  t2 := fun k hk => (hb.cell (p := ⟨L.gt, _, none⟩) h.kt.lt).trans (h.t2 k hk)
  cb := fun k hk => (h.cb k hk).kept hb fun b e => (h.kb k b hk e).lt
  dbb := h.dbb

/-- a number into a cell of the machine's memory -/
theorem PInv.setMem (h : PInv TM TT TX w base L model n mem th) {c : Nat} (hc : c < 16) (v : Nat) : PInv TM TT TX (w.setCell ⟨L.M, 2 + c, none⟩ (.int .i64 (v : Int))) base L model n (updN mem c v) th := by
  obtain ⟨y1, y2, y3⟩ := h.types
  have et := h.kM.ne h.kt y1
  exact {
    types := h.types
    bM := h.bM, bt := h.bt, bb := h.bb
    kM := h.kM.set _ _ _, kt := h.kt.set _ _ _, kb := fun k b hk e => (h.kb k b hk e).set _ _ _
    c0 := (set_ne _ (Or.inr (by omega))).trans h.c0, c1 := (set_ne _ (Or.inr (by omega))).trans h.c1
    cm := fun d hd => by
      by_cases hdc : d = c
      · subst hdc; rw [updN_same]; exact set_eq _ (h.cm d hd)
      · rw [updN_other _ _ hdc]; exact (set_ne _ (Or.inr (by omega))).trans (h.cm d hd)
    t0 := fun k hk => (set_ne _ (Or.inl et)).trans (h.t0 k hk), tr := fun k r hk hr => (set_ne _ (Or.inl et)).trans (h.tr k r hk hr), t2 := fun k hk => (set_ne _ (Or.inl et)).trans (h.t2 k hk)
    cb := fun k hk => (h.cb k hk).set _ (h.bvOff hk h.kM (Ne.symm y2))
    dbb := h.dbb }

theorem updN_pc (th : Nat → Th) (k p j : Nat) : (updN th k { th k with pc := p } j).regs = (th j).regs ∧ (updN th k { th k with pc := p } j).buf = (th j).buf := by
  by_cases hjk : j = k
  · subst hjk; rw [updN_same]; exact ⟨rfl, rfl⟩
  · rw [updN_other _ _ hjk]; exact ⟨rfl, rfl⟩
theorem updN_rg (th : Nat → Th) (k j : Nat) (rs : List Nat) : (updN th k { th k with regs := rs } j).pc = (th j).pc ∧ (updN th k { th k with regs := rs } j).buf = (th j).buf := by
  by_cases hjk : j = k
  · subst hjk; rw [updN_same]; exact ⟨rfl, rfl⟩
  · rw [updN_other _ _ hjk]; exact ⟨rfl, rfl⟩
theorem updN_bf (th : Nat → Th) (k j : Nat) (l : List RIns) : (updN th k { th k with buf := l } j).pc = (th j).pc ∧ (updN th k { th k with buf := l } j).regs = (th j).regs := by
  by_cases hjk : j = k
  · subst hjk; rw [updN_same]; exact ⟨rfl, rfl⟩
  · rw [updN_other _ _ hjk]; exact ⟨rfl, rfl⟩

/-- thread k's place in its code -/
theorem PInv.setPc (h : PInv TM TT TX w base L model n mem th) {k : Nat} (hk : k < n) (p : Nat) : PInv TM TT TX (w.setCell ⟨L.gt, k * 18, none⟩ (.int .i64 (p : Int))) base L model n mem (updN th k { th k with pc := p }) := by
  obtain ⟨y1, y2, y3⟩ := h.types
  have eM := h.kt.ne h.kM (Ne.symm y1)
  exact {
    types := h.types
    bM := h.bM, bt := h.bt, bb := h.bb
    kM := h.kM.set _ _ _, kt := h.kt.set _ _ _, kb := fun k b hk e => (h.kb k b hk e).set _ _ _
    c0 := (set_ne _ (Or.inl eM)).trans h.c0, c1 := (set_ne _ (Or.inl eM)).trans h.c1
    cm := fun d hd => (set_ne _ (Or.inl eM)).trans (h.cm d hd)
    t0 := fun j hj => by
      by_cases hjk : j = k
      · subst hjk; rw [updN_same]; exact set_eq _ (h.t0 j hj)
      · rw [updN_other _ _ hjk]; exact (set_ne _ (Or.inr (by omega))).trans (h.t0 j hj)
    tr := fun j r hj hr => by rw [(updN_pc th k p j).1]; exact (set_ne _ (Or.inr (by omega))).trans (h.tr j r hj hr)
    t2 := fun j hj => (set_ne _ (Or.inr (by omega))).trans (h.t2 j hj)
    cb := fun j hj => by rw [(updN_pc th k p j).2]; exact (h.cb j hj).set _ (h.bvOff hj h.kt (Ne.symm y3))
    dbb := h.dbb }

/-- a register of thread k -/
theorem PInv.setReg (h : PInv TM TT TX w base L model n mem th) {k r : Nat} (hk : k < n) (hr : r < 16) (hl : (th k).regs.length = 16) (v : Nat) : PInv TM TT TX (w.setCell ⟨L.gt, k * 18 + 1 + r, none⟩ (.int .i64 (v : Int))) base L model n mem (updN th k { th k with regs := (th k).regs.set r v }) := by
  obtain ⟨y1, y2, y3⟩ := h.types
  have eM := h.kt.ne h.kM (Ne.symm y1)
  exact {
    types := h.types
    bM := h.bM, bt := h.bt, bb := h.bb
    kM := h.kM.set _ _ _, kt := h.kt.set _ _ _, kb := fun k b hk e => (h.kb k b hk e).set _ _ _
    c0 := (set_ne _ (Or.inl eM)).trans h.c0, c1 := (set_ne _ (Or.inl eM)).trans h.c1
    cm := fun d hd => (set_ne _ (Or.inl eM)).trans (h.cm d hd)
    t0 := fun j hj => by rw [(updN_rg th k j _).1]; exact (set_ne _ (Or.inr (by omega))).trans (h.t0 j hj)
    tr := fun j q hj hq => by
      by_cases hjk : j = k
      · subst hjk
        rw [updN_same]
        by_cases hqr : q = r
        · subst hqr
          have : ((th j).regs.set q v)[q]?.getD 0 = v := by simp [hl, hq]
          rw [this]
          exact set_eq _ (h.tr j q hj hq)
        · have : ((th j).regs.set r v)[q]?.getD 0 = (th j).regs[q]?.getD 0 := by rw [List.getElem?_set_ne (Ne.symm hqr)]
          show _ = some (Value.int .i64 (((((th j).regs.set r v)[q]?.getD 0 : Nat)) : Int))
          rw [this]
          exact (set_ne _ (Or.inr (by omega))).trans (h.tr j q hj hq)
      · rw [updN_other _ _ hjk]
        exact (set_ne _ (Or.inr (by omega))).trans (h.tr j q hj hq)
    t2 := fun j hj => (set_ne _ (Or.inr (by omega))).trans (h.t2 j hj)
    cb := fun j hj => by rw [(updN_rg th k j _).2]; exact (h.cb j hj).set _ (h.bvOff hj h.kt (Ne.symm y3))
    dbb := h.dbb }

/-- thread k's buffer -/
theorem PInv.setBuf (h : PInv TM TT TX w base L model n mem th) {k : Nat} (hk : k < n) (v : Value) (l : List RIns) (hv : Buf2 w v l) (hown : ∀ b, v.ownBlock = some b → Blk w b TX ∧ base ≤ b ∧ ∀ j, j < n → j ≠ k → (L.bv j).ownBlock ≠ some b) :
    PInv TM TT TX (w.setCell ⟨L.gt, k * 18 + 17, none⟩ v) base { L with bv := updN L.bv k v } model n mem (updN th k { th k with buf := l }) := by
  obtain ⟨y1, y2, y3⟩ := h.types
  have eM := h.kt.ne h.kM (Ne.symm y1)
  have hvo : v.ownBlock ≠ some L.gt := fun e => (hown _ e).1.ne h.kt (Ne.symm y3) rfl
  exact {
    types := h.types
    bM := h.bM, bt := h.bt
    bb := fun j b hj e => by
      dsimp only at e
      by_cases hjk : j = k
      · subst hjk; rw [updN_same] at e; exact (hown b e).2.1
      · rw [updN_other _ _ hjk] at e; exact h.bb j b hj e
    kM := h.kM.set _ _ _, kt := h.kt.set _ _ _
    kb := fun j b hj e => by
      dsimp only at e
      by_cases hjk : j = k
      · subst hjk; rw [updN_same] at e; exact (hown b e).1.set _ _ _
      · rw [updN_other _ _ hjk] at e; exact (h.kb j b hj e).set _ _ _
    c0 := (set_ne _ (Or.inl eM)).trans h.c0, c1 := (set_ne _ (Or.inl eM)).trans h.c1
    cm := fun d hd => (set_ne _ (Or.inl eM)).trans (h.cm d hd)
    t0 := fun j hj => by rw [(updN_bf th k j l).1]; exact (set_ne _ (Or.inr (by omega))).trans (h.t0 j hj)
    tr := fun j r hj hr => by rw [(updN_bf th k j l).2]; exact (set_ne _ (Or.inr (by omega))).trans (h.tr j r hj hr)
    t2 := fun j hj => by
      dsimp only
      by_cases hjk : j = k
      · subst hjk; rw [updN_same]; exact set_eq _ (h.t2 j hj)
      · rw [updN_other _ _ hjk]; exact (set_ne _ (Or.inr (by omega))).trans (h.t2 j hj)
    cb := fun j hj => by
      by_cases hjk : j = k
      · subst hjk; dsimp only; rw [updN_same, updN_same]; exact hv.set _ hvo
      · dsimp only; rw [updN_other _ _ hjk, updN_other _ _ hjk]; exact (h.cb j hj).set _ (h.bvOff hj h.kt (Ne.symm y3))
    dbb := fun i j b hi hj hij e => by
      dsimp only at e ⊢
      by_cases hik : i = k
      · subst hik
        rw [updN_same] at e
        rw [updN_other _ _ (Ne.symm hij)]
        exact (hown b e).2.2 j hj (Ne.symm hij)
      · rw [updN_other _ _ hik] at e
        by_cases hjk : j = k
        · subst hjk
          rw [updN_same]
          intro e2
          exact (hown b e2).2.2 i hi hik e
        · rw [updN_other _ _ hjk]; exact h.dbb i j b hi hj hij e }

/-- a word into a place of thread k's buffer's block that no store of the buffer uses -/
theorem PInv.setSpare (h : PInv TM TT TX w base L model n mem th) {k b o : Nat} (hk : k < n) (hb : (L.bv k).ownBlock = some b) (u : Value)
    (hc : Buf2 (w.setCell ⟨b, o, none⟩ u) (L.bv k) (th k).buf) : PInv TM TT TX (w.setCell ⟨b, o, none⟩ u) base L model n mem th := by
  obtain ⟨y1, y2, y3⟩ := h.types
  have kk := h.kb k b hk hb
  have eM := kk.ne h.kM (Ne.symm y2)
  have et := kk.ne h.kt (Ne.symm y3)
  exact {
    types := h.types
    bM := h.bM, bt := h.bt, bb := h.bb
    kM := h.kM.set _ _ _, kt := h.kt.set _ _ _, kb := fun k b hk e => (h.kb k b hk e).set _ _ _
    c0 := (set_ne _ (Or.inl eM)).trans h.c0, c1 := (set_ne _ (Or.inl eM)).trans h.c1
    cm := fun d hd => (set_ne _ (Or.inl eM)).trans (h.cm d hd)
    t0 := fun j hj => (set_ne _ (Or.inl et)).trans (h.t0 j hj), tr := fun j r hj hr => (set_ne _ (Or.inl et)).trans (h.tr j r hj hr), t2 := fun j hj => (set_ne _ (Or.inl et)).trans (h.t2 j hj)
    cb := fun j hj => by
      by_cases hjk : j = k
      · subst hjk; exact hc
      · exact (h.cb j hj).set _ (h.dbb k j b hk hj (Ne.symm hjk) hb)
    dbb := h.dbb }
theorem PInv.drew (h : PInv TM TT TX w base L model n mem th) (m : Nat) : PInv TM TT TX (w.drewN m) base L model n mem th :=
  h.kept ⟨rfl, rfl, rfl, Nat.le_refl _, fun _ _ => rfl⟩
end

/-- what is not of the machine's types stays as it is -/
def PFr (TM TT TX : Nat) (w w' : World) : Prop := ∀ (b : Nat) (cur : Array Value) (T : Nat) (fz : Nat × Nat), w.heap[b]? = some (Obj.cells cur T fz) → T ≠ TM → T ≠ TT → T ≠ TX → w'.heap[b]? = w.heap[b]?
theorem PFr.refl (TM TT TX : Nat) (w : World) : PFr TM TT TX w w := fun _ _ _ _ _ _ _ _ => rfl
theorem PFr.trans {TM TT TX : Nat} {w w1 w2 : World} (h : PFr TM TT TX w w1) (k : PFr TM TT TX w1 w2) : PFr TM TT TX w w2 := by
  intro b cur T fz hb h1 h2 h3
  have e := h b cur T fz hb h1 h2 h3
  exact (k b cur T fz (e.trans hb) h1 h2 h3).trans e
theorem PFr.below {TM TT TX : Nat} {w w' : World} (hb : Below w.heap.size w w') : PFr TM TT TX w w' := fun b _ _ _ h _ _ _ => hb.block b (Array.getElem?_eq_some_iff.1 h).1
theorem PFr.alloc {TM TT TX : Nat} (w : World) (o : Obj) : PFr TM TT TX w (w.alloc o) := PFr.below ((Below.refl _ _).alloc (Nat.le_refl _) o)
theorem PFr.drew {TM TT TX : Nat} (w : World) (m : Nat) : PFr TM TT TX w (w.drewN m) := fun _ _ _ _ _ _ _ _ => rfl
theorem PFr.set {TM TT TX : Nat} {w : World} {g T : Nat} (hg : Blk w g T) (hT : T = TM ∨ T = TT ∨ T = TX) (o : Nat) (u : Value) : PFr TM TT TX w (w.setCell ⟨g, o, none⟩ u) := by
  intro b cur T' fz hb h1 h2 h3
  have hne : b ≠ g := by
    rintro rfl
    obtain ⟨c, hc⟩ := hg
    rw [hc] at hb
    simp at hb
    rcases hT with h | h | h
    · exact h1 (hb.2.1.symm.trans h)
    · exact h2 (hb.2.1.symm.trans h)
    · exact h3 (hb.2.1.symm.trans h)
  exact heap_setCell_other w ⟨g, o, none⟩ b u hne

def hldCells (x : RIns) : List Value := [.int .i64 (x.cell : Int), .int .i64 (x.val : Int)]
theorem hldCells_one (x : RIns) : ∀ u ∈ hldCells x, u.oneCell' = true := by
  intro u hu
  simp [hldCells] at hu
  rcases hu with rfl | rfl <;> rfl
theorem flatHld_at (l : List RIns) (i j : Nat) (hi : i < l.length) (hj : j < 2) : (l.flatMap hldCells)[i * 2 + j]? = (hldCells (l[i]?.getD rins0))[j]? := by
  induction l generalizing i with
  | nil => simp at hi
  | cons e l ih =>
    rw [List.flatMap_cons]
    have h6 : (hldCells e).length = 2 := rfl
    cases i with
    | zero => rw [List.getElem?_append_left (by omega)]; simp
    | succ i =>
      rw [List.getElem?_append_right (by omega), h6, show (i + 1) * 2 + j - 2 = i * 2 + j from by omega, ih i (by simpa using hi)]
      simp
theorem flatHld_length (l : List RIns) : (l.flatMap hldCells).length = l.length * 2 := by
  induction l with
  | nil => rfl
  | cons e l ih => rw [List.flatMap_cons, List.length_append, ih]; simp [hldCells]; omega
theorem HeldAt.cells {w : World} {b p : Nat} {x : RIns} (h : HeldAt w b p x) (j : Nat) (u : Value) (hu : (hldCells x)[j]? = some u) : w.cell? ⟨b, p + j, none⟩ = some u := by
  match j, hu with
  | 0, hu => simp [hldCells] at hu; subst hu; exact h.cell
  | 1, hu => simp [hldCells] at hu; subst hu; exact h.val
theorem HeldAt.of_cells {w : World} {b p : Nat} {x : RIns} (h : ∀ j u, (hldCells x)[j]? = some u → w.cell? ⟨b, p + j, none⟩ = some u) : HeldAt w b p x :=
  ⟨h 0 _ rfl, h 1 _ rfl⟩
theorem addr_addP (b off j : Nat) : (⟨b, off, none⟩ : Addr).add j = ⟨b, off + j, none⟩ := by unfold Addr.add; split <;> simp_all

theorem Buf2.spare {w : World} {b off len cap o : Nat} {l : List RIns} (h : Buf2 w (.slice (some ⟨b, off, none⟩) len cap) l) (ho : off + len * 2 ≤ o) (u : Value) : Buf2 (w.setCell ⟨b, o, none⟩ u) (.slice (some ⟨b, off, none⟩) len cap) l := by
  rcases h with ⟨h, _⟩ | ⟨b', off', cap', e, h1, h2, h3⟩
  · simp at h
  · simp only [Value.slice.injEq, Option.some.injEq, Addr.mk.injEq, and_true] at e
    obtain ⟨⟨rfl, rfl⟩, rfl, rfl⟩ := e
    refine Or.inr ⟨b, off, cap, rfl, h1, fun i hi => ?_, fun j hj => ?_⟩
    · have := h2 i hi
      exact ⟨(set_ne u (Or.inr (by omega))).trans this.cell, (set_ne u (Or.inr (by omega))).trans this.val⟩
    · by_cases hjo : o = off + j
      · subst hjo
        have := h3 j hj
        obtain ⟨y, hy⟩ := Option.isSome_iff_exists.1 this
        rw [set_eq u hy]; rfl
      · rw [set_ne u (Or.inr hjo)]; exact h3 j hj

theorem step_append_held {P : Program} {ops : Array Oper} {o : Oper} {a : Act} {w : World} {K : Act → World → Prop} {Q : Exit → Act → World → Prop} {E : Prop}
    (hg : o.guard = none) (s x : Operand) (t : TypeId) (hop : o.op = Op.call { callee := Callee.builtin Builtin.append, args := #[s, x], argTypes := #[t, t] })
    (e : TypeId) (i : TypeInfo) (z : Value) (h1 : P.underlying t = some (.slice e)) (h2 : P.info? e = some i) (h3 : i.zero = some z) (h4 : i.size = 2) (h5 : i.bytes = 16) (h6 : z.cells.size = 2)
    {TM TT base : Nat} {L : PLoc} {model n : Nat} {mem : Nat → Nat} {th : Nat → Th} (hI : PInv TM TT e w base L model n mem th) {k : Nat} (hk : k < n) (hlen : (th k).buf.length ≤ 32)
    (hs : a.eval s = L.bv k) (ad : Addr) (hx : a.eval x = .slice (some ad) 1 1) (X : RIns) (hc : ∀ j u, (hldCells X)[j]? = some u → w.cell? (ad.add j) = some u)
    (hK : ∀ v' w', PInv TM TT e w' base L model n mem th → Buf2 w' v' ((th k).buf ++ [X]) → (∀ b, v'.ownBlock = some b → Blk w' b e ∧ base ≤ b ∧ ∀ j, j < n → j ≠ k → (L.bv j).ownBlock ≠ some b) → Below base w w' → (∀ p : Addr, p.block < w.heap.size → (L.bv k).ownBlock ≠ some p.block → w'.cell? p = w.cell? p) → PFr TM TT e w w' → K (a.put o.dst v') w') :
    if Region.wanted o (yielded ops a.tmps) = true then Oper.wp P o a w K Q else E := by
  have hsz : base ≤ w.heap.size := hI.size
  have grows : ∀ (ao : Option Addr) (cap : Nat), L.bv k = .slice ao (th k).buf.length cap → (ao = none → (th k).buf.length = 0 ∧ cap = 0) → (∀ b, ao = some b → ∀ j u, ((th k).buf.flatMap hldCells)[j]? = some u → w.cell? (b.add j) = some u) → cap < (th k).buf.length + 1 →
      if Region.wanted o (yielded ops a.tmps) = true then Oper.wp P o a w K Q else E := by
    intro ao cap e1 e2 e3 e4
    refine step_append_grows hg s x t hop e i z 2 16 h1 h2 h3 h4 h5 h6 (by decide) ao (th k).buf.length cap ((th k).buf.flatMap hldCells) (hs.trans e1) e2 (flatHld_length _) e3 ad 1 1 (hldCells X) hx rfl hc (hldCells_one X) e4 (by unfold maxLen; omega) (by omega) ?_
    intro v' w' hown hgr
    have hb : Below w.heap.size w w' := ⟨hgr.os, hgr.tape, hgr.output, hgr.size, fun j hj => hgr.block j hj (by simp)⟩
    rcases hown.2 with ⟨_, h0⟩ | ⟨g, cp, cur, rfl, hg1, hg2, hg3, _, hg4, hg5⟩
    · omega
    · refine hK _ w' (hI.kept hb) ?_ ?_ (hb.mono hsz) (fun p hp _ => hb.cell hp) (PFr.below hb)
      · refine Or.inr ⟨g, 0, cp, by simp, by simpa using hg3, fun q hq => ?_, fun j hj => ?_⟩
        · refine HeldAt.of_cells fun j u hu => ?_
          have hj : j < 2 := by
            have := (List.getElem?_eq_some_iff.1 hu).1
            simpa [hldCells] using this
          have := hown.cells (g := g) rfl (q * 2 + j) u (by
            have e5 : (th k).buf.flatMap hldCells ++ hldCells X = ((th k).buf ++ [X]).flatMap hldCells := by simp
            rw [e5, flatHld_at _ q j hq hj]; exact hu)
          rw [addr_addP] at this
          rw [show 0 + q * 2 + j = 0 + (q * 2 + j) from by omega]
          exact this
        · rw [cell_of_row w' g (0 + j) cur e (0, 0) hg2]
          have hj2 : j < cur.size := by omega
          simp [hj2]
      · intro b hb'
        simp [Value.ownBlock] at hb'
        subst hb'
        refine ⟨⟨cur, hg2⟩, Nat.le_trans hsz hg1, fun j hj _ hjb => ?_⟩
        have := (hI.kb j g hj hjb).lt
        omega
  rcases hI.cb k hk with ⟨e1, e2⟩ | ⟨b, off, cap, e1, e2, e3, e4⟩
  · refine grows none 0 (by rw [e1, e2]; rfl) (fun _ => ⟨by rw [e2]; rfl, rfl⟩) (fun b hb => by cases hb) (by omega)
  · have holds : ∀ j u, ((th k).buf.flatMap hldCells)[j]? = some u → w.cell? ⟨b, off + j, none⟩ = some u := by
      intro j u hu
      have hj := (List.getElem?_eq_some_iff.1 hu).1
      rw [flatHld_length] at hj
      have hjd : j / 2 * 2 + j % 2 = j := by omega
      have := flatHld_at (th k).buf (j / 2) (j % 2) (by omega) (by omega)
      rw [hjd, hu] at this
      have := (e3 (j / 2) (by omega)).cells (j % 2) u this.symm
      rw [show off + j / 2 * 2 + j % 2 = off + j from by omega] at this
      exact this
    by_cases hroom : (th k).buf.length + 1 ≤ cap
    · have hbk : (L.bv k).ownBlock = some b := by rw [e1]; rfl
      have hB := hI.kb k b hk hbk
      refine step_append_room hg s x t hop e i 2 h1 h2 h4 b off (th k).buf.length cap (hs.trans e1) ad 1 1 (hldCells X) hx rfl hc (hldCells_one X) hroom (fun j hj => ⟨?_, hB.free _⟩) ?_
      · rw [Nat.add_assoc]
        exact e4 _ (by simp [hldCells] at hj; omega)
      · simp only [hldCells, World.setCells]
        have spare : ∀ (w1 : World) (o1 : Nat) (u : Value), PInv TM TT e w1 base L model n mem th → off + (th k).buf.length * 2 ≤ o1 → PInv TM TT e (w1.setCell ⟨b, o1, none⟩ u) base L model n mem th := by
          intro w1 o1 u h ho
          refine h.setSpare hk hbk u ?_
          have := h.cb k hk
          rw [e1] at this ⊢
          exact this.spare ho u
        have m1 := spare _ (off + (th k).buf.length * 2) (.int .i64 (X.cell : Int)) hI (by omega)
        have m2 := spare _ (off + (th k).buf.length * 2 + 1) (.int .i64 (X.val : Int)) m1 (by omega)
        have hbb := hI.bb k b hk hbk
        have some2 : ∀ j, j < 2 → ∃ y, w.cell? ⟨b, off + (th k).buf.length * 2 + j, none⟩ = some y := by
          intro j hj
          have := e4 ((th k).buf.length * 2 + j) (by omega)
          rw [← Nat.add_assoc] at this
          exact Option.isSome_iff_exists.1 this
        obtain ⟨y0, hy0⟩ := some2 0 (by omega)
        obtain ⟨y1, hy1⟩ := some2 1 (by omega)
        have hend := m2.cb k hk
        rw [e1] at hend
        refine hK _ _ m2 ?_ ?_ ?_ ?_ ((PFr.set hB (Or.inr (Or.inr rfl)) _ _).trans (PFr.set (hB.set _ _ _) (Or.inr (Or.inr rfl)) _ _))
        · rcases hend with ⟨h, _⟩ | ⟨b', off', cap', e, f1, f2, f3⟩
          · simp at h
          · simp only [Value.slice.injEq, Option.some.injEq, Addr.mk.injEq, and_true] at e
            obtain ⟨⟨rfl, rfl⟩, _, rfl⟩ := e
            refine Or.inr ⟨b, off, cap, by simp, by simpa using hroom, fun q hq => ?_, f3⟩
            by_cases hql : q < (th k).buf.length
            · rw [List.getElem?_append_left hql]; exact f2 q hql
            · have : q = (th k).buf.length := by simp at hq; omega
              subst this
              rw [List.getElem?_append_right (Nat.le_refl _), Nat.sub_self]
              refine ⟨?_, ?_⟩
              · rw [set_ne _ (Or.inr (by omega))]
                exact set_eq _ hy0
              · exact set_eq (x := y1) _ (by rw [set_ne _ (Or.inr (by omega))]; exact hy1)
        · intro b' hb'
          simp [Value.ownBlock] at hb'
          subst hb'
          exact ⟨(hB.set _ _ _).set _ _ _, hbb, fun j hj hjk => hI.dbb k j b hk hj (Ne.symm hjk) hbk⟩
        · exact ((Below.refl base w).setCell (p := ⟨b, _, none⟩) hbb _).setCell (p := ⟨b, _, none⟩) hbb _
        · intro p hp hne
          rw [hbk] at hne
          have hpb : p.block ≠ b := fun e => hne (by rw [e])
          have one : ∀ (w1 : World) (o1 : Nat) (u : Value), (w1.setCell ⟨b, o1, none⟩ u).cell? p = w1.cell? p := fun w1 o1 u => World.cell?_of_block (Below.heap_setCell _ _ _ _ hpb)
          rw [one, one]
    · refine grows (some ⟨b, off, none⟩) cap e1 (fun h => by cases h) (fun b' hb' j u hu => ?_) (by omega)
      simp at hb'
      subst hb'
      rw [addr_addP]
      exact holds j u hu

end Go.Proofs.Ytokfiflflcfidab
