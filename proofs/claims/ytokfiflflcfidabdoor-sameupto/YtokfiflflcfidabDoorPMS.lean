import Derived.Test.YtokfiflflcfidabDoorMachM
import Derived.Deep.RegionLawGrows
import Derived.Test.YtokfiflflcfidabDoorRows
import Derived.Test.YtokfiflflcfidabDoorMem
import Derived.Test.YtokfiflflcfidabDoorMem2
import Derived.Test.YtokfiflflcfidabDoorMemQ
import Derived.WalkKit
import Derived.WalkSpells
import Derived.WalkLawsBesides
import Derived.RegionTactic
import Derived.BigRegion
import Derived.Deep.QuietTactic
import Derived.BigQuiet
import Derived.Deep.RegionHeld3
import Derived.Deep.DrawnRows
import Derived.Test.YtokfiflflcfidabDoorStM
namespace Go.Proofs.YtokfiflflcfidabDoor
open Go.RowKit

/-- a store that waits: two cells -/
structure HeldAt (w : World) (b p : Nat) (x : RIns) : Prop where
  cell : w.cell? ⟨b, p, none⟩ = some (.int .i64 (x.cell : Int))
  val : w.cell? ⟨b, p + 1, none⟩ = some (.int .i64 (x.val : Int))
def Buf2 (w : World) (v : Value) (l : List RIns) : Prop :=
  (v = .slice none 0 0 ∧ l = []) ∨ ∃ b off cap, v = .slice (some ⟨b, off, none⟩) l.length cap ∧ l.length ≤ cap ∧
    (∀ i, i < l.length → HeldAt w b (off + i * 2) (l[i]?.getD rins0)) ∧ ∀ j, j < cap * 2 → (w.cell? ⟨b, off + j, none⟩).isSome = true
theorem Buf2.len {w : World} {v : Value} {l : List RIns} (h : Buf2 w v l) : ∃ a c, v = .slice a l.length c := by
  rcases h with ⟨rfl, rfl⟩ | ⟨b, off, cap, rfl, _⟩
  · exact ⟨_, _, rfl⟩
  · exact ⟨_, _, rfl⟩
theorem HeldAt.set {w : World} {b p : Nat} {x : RIns} (h : HeldAt w b p x) {g o : Nat} (u : Value) (hne : g ≠ b) : HeldAt (w.setCell ⟨g, o, none⟩ u) b p x :=
  ⟨(set_ne u (Or.inl hne)).trans h.cell, (set_ne u (Or.inl hne)).trans h.val⟩
theorem HeldAt.kept {w w' : World} {b p : Nat} {x : RIns} (h : HeldAt w b p x) (hb : Below w.heap.size w w') (hlt : b < w.heap.size) : HeldAt w' b p x :=
  ⟨(hb.cell (p := ⟨b, _, none⟩) hlt).trans h.cell, (hb.cell (p := ⟨b, _, none⟩) hlt).trans h.val⟩
theorem Buf2.set {w : World} {v : Value} {l : List RIns} (h : Buf2 w v l) {g o : Nat} (u : Value) (hne : v.ownBlock ≠ some g) : Buf2 (w.setCell ⟨g, o, none⟩ u) v l := by
  rcases h with h | ⟨b, off, cap, rfl, h1, h2, h3⟩
  · exact Or.inl h
  · have hgb : g ≠ b := fun e => hne (by simp [Value.ownBlock, e])
    exact Or.inr ⟨b, off, cap, rfl, h1, fun i hi => (h2 i hi).set u hgb, fun j hj => by rw [set_ne u (Or.inl hgb)]; exact h3 j hj⟩
theorem Buf2.kept {w w' : World} {v : Value} {l : List RIns} (h : Buf2 w v l) (hb : Below w.heap.size w w') (hlt : ∀ b, v.ownBlock = some b → b < w.heap.size) : Buf2 w' v l := by
  rcases h with h | ⟨b, off, cap, rfl, h1, h2, h3⟩
  · exact Or.inl h
  · have hl := hlt b rfl
    exact Or.inr ⟨b, off, cap, rfl, h1, fun i hi => (h2 i hi).kept hb hl, fun j hj => by rw [hb.cell (p := ⟨b, _, none⟩) hl]; exact h3 j hj⟩

/-- where the program's machine lies -/
structure PLoc where
  M : Nat
  gt : Nat
  tcap : Nat
  bv : Nat → Value

/-- the program's machine in memory: n threads th, the cells mem -/
structure PInv (TM TT TX : Nat) (w : World) (base : Nat) (L : PLoc) (model n : Nat) (mem : Nat → Nat) (th : Nat → Th) : Prop where
  types : TM ≠ TT ∧ TM ≠ TX ∧ TT ≠ TX
  bM : base ≤ L.M
  bt : base ≤ L.gt
  bb : ∀ k b, k < n → (L.bv k).ownBlock = some b → base ≤ b
  kM : Blk w L.M TM
  kt : Blk w L.gt TT
  kb : ∀ k b, k < n → (L.bv k).ownBlock = some b → Blk w b TX
  c0 : w.cell? ⟨L.M, 0, none⟩ = some (.int .i64 (model : Int))
  c1 : w.cell? ⟨L.M, 1, none⟩ = some (.slice (some ⟨L.gt, 0, none⟩) n L.tcap)
  cm : ∀ c, c < 16 → w.cell? ⟨L.M, 2 + c, none⟩ = some (.int .i64 ((mem c : Nat) : Int))
  t0 : ∀ k, k < n → w.cell? ⟨L.gt, k * 18, none⟩ = some (.int .i64 (((th k).pc : Nat) : Int))
  tr : ∀ k r, k < n → r < 16 → w.cell? ⟨L.gt, k * 18 + 1 + r, none⟩ = some (.int .i64 ((((th k).regs[r]?.getD 0 : Nat)) : Int))
  t2 : ∀ k, k < n → w.cell? ⟨L.gt, k * 18 + 17, none⟩ = some (L.bv k)
  cb : ∀ k, k < n → Buf2 w (L.bv k) (th k).buf
  dbb : ∀ k j b, k < n → j < n → k ≠ j → (L.bv k).ownBlock = some b → (L.bv j).ownBlock ≠ some b

section
variable {TM TT TX : Nat} {w : World} {base : Nat} {L : PLoc} {model n : Nat} {mem : Nat → Nat} {th : Nat → Th}

theorem PInv.bvOff (h : PInv TM TT TX w base L model n mem th) {k g T : Nat} (hk : k < n) (hg : Blk w g T) (hT : TX ≠ T) : (L.bv k).ownBlock ≠ some g := by
  intro e
  exact (h.kb k g hk e).ne hg hT rfl
theorem PInv.size (h : PInv TM TT TX w base L model n mem th) : base ≤ w.heap.size := Nat.le_of_lt (Nat.lt_of_le_of_lt h.bM h.kM.lt)

/-- nothing but new blocks -/
theorem PInv.kept (h : PInv TM TT TX w base L model n mem th) {w' : World} (hb : Below w.heap.size w w') : PInv TM TT TX w' base L model n mem th where
  types := h.types
  bM := h.bM
  bt := h.bt
  bb := h.bb
  kM := h.kM.kept hb
  kt := h.kt.kept hb
  kb := fun k b hk e => (h.kb k b hk e).kept hb
  c0 := (hb.cell (p := ⟨L.M, 0, none⟩) h.kM.lt).trans h.c0
  c1 := (hb.cell (p := ⟨L.M, 1, none⟩) h.kM.lt).trans h.c1
  cm := fun c hc => (hb.cell (p := ⟨L.M, _, none⟩) h.kM.lt).trans (h.cm c hc)
  t0 := fun k hk => (hb.cell (p := ⟨L.gt, _, none⟩) h.kt.lt).trans (h.t0 k hk)
  tr := fun k r hk hr => (hb.cell (p := ⟨L.gt, _, none⟩) h.kt.lt).trans (h.tr k r hk hr)
  t2 := fun k hk => (hb.cell (p := ⟨L.gt, _, none⟩) h.kt.lt).trans (h.t2 k hk)
  cb := fun k hk => (h.cb k hk).kept hb fun b e => (h.kb k b hk e).lt
  dbb := h.dbb

/-- a number into a cell of the machine's memory -/
theorem PInv.setMem (h : PInv TM TT TX w base L model n mem th) {c : Nat} (hc : c < 16) (v : Nat) : PInv TM TT TX (w.setCell ⟨L.M, 2 + c, none⟩ (.int .i64 (v : Int))) base L model n (updN mem c v) th := by
  obtain ⟨y1, y2, y3⟩ := h.types
  have et := h.kM.ne h.kt y1
  exact {
    types := h.types
    bM := h.bM, bt := h.bt, bb := h.bb
    kM := h.kM.set _ _ _, kt := h.kt.set _ _ _, kb := fun k b hk e => (h.kb k b hk e).set _ _ _
    c0 := (set_ne _ (Or.inr (by omega))).trans h.c0, c1 := (set_ne _ (Or.inr (by omega))).trans h.c1
    cm := fun d hd => by
      by_cases hdc : d = c
      · subst hdc; rw [updN_same]; exact set_eq _ (h.cm d hd)
      · rw [updN_other _ _ hdc]; exact (set_ne _ (Or.inr (by omega))).trans (h.cm d hd)
    t0 := fun k hk => (set_ne _ (Or.inl et)).trans (h.t0 k hk), tr := fun k r hk hr => (set_ne _ (Or.inl et)).trans (h.tr k r hk hr), t2 := fun k hk => (set_ne _ (Or.inl et)).trans (h.t2 k hk)
    cb := fun k hk => (h.cb k hk).set _ (h.bvOff hk h.kM (Ne.symm y2))
    dbb := h.dbb }

theorem updN_pc (th : Nat → Th) (k p j : Nat) : (updN th k { th k with pc := p } j).regs = (th j).regs ∧ (updN th k { th k with pc := p } j).buf = (th j).buf := by
  by_cases hjk : j = k
  · subst hjk; rw [updN_same]; exact ⟨rfl, rfl⟩
  · rw [updN_other _ _ hjk]; exact ⟨rfl, rfl⟩
theorem updN_rg (th : Nat → Th) (k j : Nat) (rs : List Nat) : (updN th k { th k with regs := rs } j).pc = (th j).pc ∧ (updN th k { th k with regs := rs } j).buf = (th j).buf := by
  by_cases hjk : j = k
  · subst hjk; rw [updN_same]; exact ⟨rfl, rfl⟩
  · rw [updN_other _ _ hjk]; exact ⟨rfl, rfl⟩
theorem updN_bf (th : Nat → Th) (k j : Nat) (l : List RIns) : (updN th k { th k with buf := l } j).pc = (th j).pc ∧ (updN th k { th k with buf := l } j).regs = (th j).regs := by
  by_cases hjk : j = k
  · subst hjk; rw [updN_same]; exact ⟨rfl, rfl⟩
  · rw [updN_other _ _ hjk]; exact ⟨rfl, rfl⟩

/-- thread k's place in its code -/
theorem PInv.setPc (h : PInv TM TT TX w base L model n mem th) {k : Nat} (hk : k < n) (p : Nat) : PInv TM TT TX (w.setCell ⟨L.gt, k * 18, none⟩ (.int .i64 (p : Int))) base L model n mem (updN th k { th k with pc := p }) := by
  obtain ⟨y1, y2, y3⟩ := h.types
  have eM := h.kt.ne h.kM (Ne.symm y1)
  exact {
    types := h.types
    bM := h.bM, bt := h.bt, bb := h.bb
    kM := h.kM.set _ _ _, kt := h.kt.set _ _ _, kb := fun k b hk e => (h.kb k b hk e).set _ _ _
    c0 := (set_ne _ (Or.inl eM)).trans h.c0, c1 := (set_ne _ (Or.inl eM)).trans h.c1
    cm := fun d hd => (set_ne _ (Or.inl eM)).trans (h.cm d hd)
    t0 := fun j hj => by
      by_cases hjk : j = k
      · subst hjk; rw [updN_same]; exact set_eq _ (h.t0 j hj)
      · rw [updN_other _ _ hjk]; exact (set_ne _ (Or.inr (by omega))).trans (h.t0 j hj)
    tr := fun j r hj hr => by rw [(updN_pc th k p j).1]; exact (set_ne _ (Or.inr (by omega))).trans (h.tr j r hj hr)
    t2 := fun j hj => (set_ne _ (Or.inr (by omega))).trans (h.t2 j hj)
    cb := fun j hj => by rw [(updN_pc th k p j).2]; exact (h.cb j hj).set _ (h.bvOff hj h.kt (Ne.symm y3))
    dbb := h.dbb }

/-- a register of thread k -/
theorem PInv.setReg (h : PInv TM TT TX w base L model n mem th) {k r : Nat} (hk : k < n) (hr : r < 16) (hl : (th k).regs.length = 16) (v : Nat) : PInv TM TT TX (w.setCell ⟨L.gt, k * 18 + 1 + r, none⟩ (.int .i64 (v : Int))) base L model n mem (updN th k { th k with regs := (th k).regs.set r v }) := by
  obtain ⟨y1, y2, y3⟩ := h.types
  have eM := h.kt.ne h.kM (Ne.symm y1)
  exact {
    types := h.types
    bM := h.bM, bt := h.bt, bb := h.bb
    kM := h.kM.set _ _ _, kt := h.kt.set _ _ _, kb := fun k b hk e => (h.kb k b hk e).set _ _ _
    c0 := (set_ne _ (Or.inl eM)).trans h.c0, c1 := (set_ne _ (Or.inl eM)).trans h.c1
    cm := fun d hd => (set_ne _ (Or.inl eM)).trans (h.cm d hd)
    t0 := fun j hj => by rw [(updN_rg th k j _).1]; exact (set_ne _ (Or.inr (by omega))).trans (h.t0 j hj)
    tr := fun j q hj hq => by
      by_cases hjk : j = k
      · subst hjk
        rw [updN_same]
        by_cases hqr : q = r
        · subst hqr
          have : ((th j).regs.set q v)[q]?.getD 0 = v := by simp [hl, hq]
          rw [this]
          exact set_eq _ (h.tr j q hj hq)
        · have : ((th j).regs.set r v)[q]?.getD 0 = (th j).regs[q]?.getD 0 := by rw [List.getElem?_set_ne (Ne.symm hqr)]
          show _ = some (Value.int .i64 (((((th j).regs.set r v)[q]?.getD 0 : Nat)) : Int))
          rw [this]
          exact (set_ne _ (Or.inr (by omega))).trans (h.tr j q hj hq)
      · rw [updN_other _ _ hjk]
        exact (set_ne _ (Or.inr (by omega))).trans (h.tr j q hj hq)
    t2 := fun j hj => (set_ne _ (Or.inr (by omega))).trans (h.t2 j hj)
    cb := fun j hj => by rw [(updN_rg th k j _).2]; exact (h.cb j hj).set _ (h.bvOff hj h.kt (Ne.symm y3))
    dbb := h.dbb }

/-- thread k's buffer -/
theorem PInv.setBuf (h : PInv TM TT TX w base L model n mem th) {k : Nat} (hk : k < n) (v : Value) (l : List RIns) (hv : Buf2 w v l) (hown : ∀ b, v.ownBlock = some b → Blk w b TX ∧ base ≤ b ∧ ∀ j, j < n → j ≠ k → (L.bv j).ownBlock ≠ some b) :
    PInv TM TT TX (w.setCell ⟨L.gt, k * 18 + 17, none⟩ v) base { L with bv := updN L.bv k v } model n mem (updN th k { th k with buf := l }) := by
  obtain ⟨y1, y2, y3⟩ := h.types
  have eM := h.kt.ne h.kM (Ne.symm y1)
  have hvo : v.ownBlock ≠ some L.gt := fun e => (hown _ e).1.ne h.kt (Ne.symm y3) rfl
  exact {
    types := h.types
    bM := h.bM, bt := h.bt
    bb := fun j b hj e => by
      dsimp only at e
      by_cases hjk : j = k
      · subst hjk; rw [updN_same] at e; exact (hown b e).2.1
      · rw [updN_other _ _ hjk] at e; exact h.bb j b hj e
    kM := h.kM.set _ _ _, kt := h.kt.set _ _ _
    kb := fun j b hj e => by
      dsimp only at e
      by_cases hjk : j = k
      · subst hjk; rw [updN_same] at e; exact (hown b e).1.set _ _ _
      · rw [updN_other _ _ hjk] at e; exact (h.kb j b hj e).set _ _ _
    c0 := (set_ne _ (Or.inl eM)).trans h.c0, c1 := (set_ne _ (Or.inl eM)).trans h.c1
    cm := fun d hd => (set_ne _ (Or.inl eM)).trans (h.cm d hd)
    t0 := fun j hj => by rw [(updN_bf th k j l).1]; exact (set_ne _ (Or.inr (by omega))).trans (h.t0 j hj)
    tr := fun j r hj hr => by rw [(updN_bf th k j l).2]; exact (set_ne _ (Or.inr (by omega))).trans (h.tr j r hj hr)
    t2 := fun j hj => by
      dsimp only
      by_cases hjk : j = k
      · subst hjk; rw [updN_same]; exact set_eq _ (h.t2 j hj)
      · rw [updN_other _ _ hjk]; exact (set_ne _ (Or.inr (by omega))).trans (h.t2 j hj)
    cb := fun j hj => by
      by_cases hjk : j = k
      · subst hjk; dsimp only; rw [updN_same, updN_same]; exact hv.set _ hvo
      · dsimp only; rw [updN_other _ _ hjk, updN_other _ _ hjk]; exact (h.cb j hj).set _ (h.bvOff hj h.kt (Ne.symm y3))
    dbb := fun i j b hi hj hij e => by
      dsimp only at e ⊢
      by_cases hik : i = k
      · subst hik
        rw [updN_same] at e
        rw [updN_other _ _ (Ne.symm hij)]
        exact (hown b e).2.2 j hj (Ne.symm hij)
      · rw [updN_other _ _ hik] at e
        by_cases hjk : j = k
        · subst hjk
          rw [updN_same]
          intro e2
          exact (hown b e2).2.2 i hi hik e
        · rw [updN_other _ _ hjk]; exact h.dbb i j b hi hj hij e }

/-- a word into a place of thread k's buffer's block that no store of the buffer uses -/
theorem PInv.setSpare (h : PInv TM TT TX w base L model n mem th) {k b o : Nat} (hk : k < n) (hb : (L.bv k).ownBlock = some b) (u : Value)
    (hc : Buf2 (w.setCell ⟨b, o, none⟩ u) (L.bv k) (th k).buf) : PInv TM TT TX (w.setCell ⟨b, o, none⟩ u) base L model n mem th := by
  obtain ⟨y1, y2, y3⟩ := h.types
  have kk := h.kb k b hk hb
  have eM := kk.ne h.kM (Ne.symm y2)
  have et := kk.ne h.kt (Ne.symm y3)
  exact {
    types := h.types
    bM := h.bM, bt := h.bt, bb := h.bb
    kM := h.kM.set _ _ _, kt := h.kt.set _ _ _, kb := fun k b hk e => (h.kb k b hk e).set _ _ _
    c0 := (set_ne _ (Or.inl eM)).trans h.c0, c1 := (set_ne _ (Or.inl eM)).trans h.c1
    cm := fun d hd => (set_ne _ (Or.inl eM)).trans (h.cm d hd)
    t0 := fun j hj => (set_ne _ (Or.inl et)).trans (h.t0 j hj), tr := fun j r hj hr => (set_ne _ (Or.inl et)).trans (h.tr j r hj hr), t2 := fun j hj => (set_ne _ (Or.inl et)).trans (h.t2 j hj)
    cb := fun j hj => by
      by_cases hjk : j = k
      · subst hjk; exact hc
      · exact (h.cb j hj).set _ (h.dbb k j b hk hj (Ne.symm hjk) hb)
    dbb := h.dbb }
theorem PInv.drew (h : PInv TM TT TX w base L model n mem th) (m : Nat) : PInv TM TT TX (w.drewN m) base L model n mem th :=
  h.kept ⟨rfl, rfl, rfl, Nat.le_refl _, fun _ _ => rfl⟩
end

/-- what is not of the machine's types stays as it is -/
def PFr (TM TT TX : Nat) (w w' : World) : Prop := ∀ (b : Nat) (cur : Array Value) (T : Nat) (fz : Nat × Nat), w.heap[b]? = some (Obj.cells cur T fz) → T ≠ TM → T ≠ TT → T ≠ TX → w'.heap[b]? = w.heap[b]?
theorem PFr.refl (TM TT TX : Nat) (w : World) : PFr TM TT TX w w := fun _ _ _ _ _ _ _ _ => rfl
theorem PFr.trans {TM TT TX : Nat} {w w1 w2 : World} (h : PFr TM TT TX w w1) (k : PFr TM TT TX w1 w2) : PFr TM TT TX w w2 := by
  intro b cur T fz hb h1 h2 h3
  have e := h b cur T fz hb h1 h2 h3
  exact (k b cur T fz (e.trans hb) h1 h2 h3).trans e
theorem PFr.below {TM TT TX : Nat} {w w' : World} (hb : Below w.heap.size w w') : PFr TM TT TX w w' := fun b _ _ _ h _ _ _ => hb.block b (Array.getElem?_eq_some_iff.1 h).1
theorem PFr.alloc {TM TT TX : Nat} (w : World) (o : Obj) : PFr TM TT TX w (w.alloc o) := PFr.below ((Below.refl _ _).alloc (Nat.le_refl _) o)
theorem PFr.drew {TM TT TX : Nat} (w : World) (m : Nat) : PFr TM TT TX w (w.drewN m) := fun _ _ _ _ _ _ _ _ => rfl
theorem PFr.set {TM TT TX : Nat} {w : World} {g T : Nat} (hg : Blk w g T) (hT : T = TM ∨ T = TT ∨ T = TX) (o : Nat) (u : Value) : PFr TM TT TX w (w.setCell ⟨g, o, none⟩ u) := by
  intro b cur T' fz hb h1 h2 h3
  have hne : b ≠ g := by
    rintro rfl
    obtain ⟨c, hc⟩ := hg
    rw [hc] at hb
    simp at hb
    rcases hT with h | h | h
    · exact h1 (hb.2.1.symm.trans h)
    · exact h2 (hb.2.1.symm.trans h)
    · exact h3 (hb.2.1.symm.trans h)
  exact heap_setCell_other w ⟨g, o, none⟩ b u hne

def hldCells (x : RIns) : List Value := [.int .i64 (x.cell : Int), .int .i64 (x.val : Int)]
theorem hldCells_one (x : RIns) : ∀ u ∈ hldCells x, u.oneCell' = true := by
  intro u hu
  simp [hldCells] at hu
  rcases hu with rfl | rfl <;> rfl
theorem flatHld_at (l : List RIns) (i j : Nat) (hi : i < l.length) (hj : j < 2) : (l.flatMap hldCells)[i * 2 + j]? = (hldCells (l[i]?.getD rins0))[j]? := by
  induction l generalizing i with
  | nil => simp at hi
  | cons e l ih =>
    rw [List.flatMap_cons]
    have h6 : (hldCells e).length = 2 := rfl
    cases i with
    | zero => rw [List.getElem?_append_left (by omega)]; simp
    | succ i =>
      rw [List.getElem?_append_right (by omega), h6, show (i + 1) * 2 + j - 2 = i * 2 + j from by omega, ih i (by simpa using hi)]
      simp
theorem flatHld_length (l : List RIns) : (l.flatMap hldCells).length = l.length * 2 := by
  induction l with
  | nil => rfl
  | cons e l ih => rw [List.flatMap_cons, List.length_append, ih]; simp [hldCells]; omega
theorem HeldAt.cells {w : World} {b p : Nat} {x : RIns} (h : HeldAt w b p x) (j : Nat) (u : Value) (hu : (hldCells x)[j]? = some u) : w.cell? ⟨b, p + j, none⟩ = some u := by
  match j, hu with
  | 0, hu => simp [hldCells] at hu; subst hu; exact h.cell
  | 1, hu => simp [hldCells] at hu; subst hu; exact h.val
theorem HeldAt.of_cells {w : World} {b p : Nat} {x : RIns} (h : ∀ j u, (hldCells x)[j]? = some u → w.cell? ⟨b, p + j, none⟩ = some u) : HeldAt w b p x :=
  ⟨h 0 _ rfl, h 1 _ rfl⟩
theorem addr_addP (b off j : Nat) : (⟨b, off, none⟩ : Addr).add j = ⟨b, off + j, none⟩ := by unfold Addr.add; split <;> simp_all

theorem Buf2.spare {w : World} {b off len cap o : Nat} {l : List RIns} (h : Buf2 w (.slice (some ⟨b, off, none⟩) len cap) l) (ho : off + len * 2 ≤ o) (u : Value) : Buf2 (w.setCell ⟨b, o, none⟩ u) (.slice (some ⟨b, off, none⟩) len cap) l := by
  rcases h with ⟨h, _⟩ | ⟨b', off', cap', e, h1, h2, h3⟩
  · simp at h
  · simp only [Value.slice.injEq, Option.some.injEq, Addr.mk.injEq, and_true] at e
    obtain ⟨⟨rfl, rfl⟩, rfl, rfl⟩ := e
    refine Or.inr ⟨b, off, cap, rfl, h1, fun i hi => ?_, fun j hj => ?_⟩
    · have := h2 i hi
      exact ⟨(set_ne u (Or.inr (by omega))).trans this.cell, (set_ne u (Or.inr (by omega))).trans this.val⟩
    · by_cases hjo : o = off + j
      · subst hjo
        have := h3 j hj
        obtain ⟨y, hy⟩ := Option.isSome_iff_exists.1 this
        rw [set_eq u hy]; rfl
      · rw [set_ne u (Or.inr hjo)]; exact h3 j hj

theorem step_append_held {P : Program} {ops : Array Oper} {o : Oper} {a : Act} {w : World} {K : Act → World → Prop} {Q : Exit → Act → World → Prop} {E : Prop}
    (hg : o.guard = none) (s x : Operand) (t : TypeId) (hop : o.op = Op.call { callee := Callee.builtin Builtin.append, args := #[s, x], argTypes := #[t, t] })
    (e : TypeId) (i : TypeInfo) (z : Value) (h1 : P.underlying t = some (.slice e)) (h2 : P.info? e = some i) (h3 : i.zero = some z) (h4 : i.size = 2) (h5 : i.bytes = 16) (h6 : z.cells.size = 2)
    {TM TT base : Nat} {L : PLoc} {model n : Nat} {mem : Nat → Nat} {th : Nat → Th} (hI : PInv TM TT e w base L model n mem th) {k : Nat} (hk : k < n) (hlen : (th k).buf.length ≤ 32)
    (hs : a.eval s = L.bv k) (ad : Addr) (hx : a.eval x = .slice (some ad) 1 1) (X : RIns) (hc : ∀ j u, (hldCells X)[j]? = some u → w.cell? (ad.add j) = some u)
    (hK : ∀ v' w', PInv TM TT e w' base L model n mem th → Buf2 w' v' ((th k).buf ++ [X]) → (∀ b, v'.ownBlock = some b → Blk w' b e ∧ base ≤ b ∧ ∀ j, j < n → j ≠ k → (L.bv j).ownBlock ≠ some b) → Below base w w' → (∀ p : Addr, p.block < w.heap.size → (L.bv k).ownBlock ≠ some p.block → w'.cell? p = w.cell? p) → PFr TM TT e w w' → K (a.put o.dst v') w') :
    if Region.wanted o (yielded ops a.tmps) = true then Oper.wp P o a w K Q else E := by
  have hsz : base ≤ w.heap.size := hI.size
  have grows : ∀ (ao : Option Addr) (cap : Nat), L.bv k = .slice ao (th k).buf.length cap → (ao = none → (th k).buf.length = 0 ∧ cap = 0) → (∀ b, ao = some b → ∀ j u, ((th k).buf.flatMap hldCells)[j]? = some u → w.cell? (b.add j) = some u) → cap < (th k).buf.length + 1 →
      if Region.wanted o (yielded ops a.tmps) = true then Oper.wp P o a w K Q else E := by
    intro ao cap e1 e2 e3 e4
    refine step_append_grows hg s x t hop e i z 2 16 h1 h2 h3 h4 h5 h6 (by decide) ao (th k).buf.length cap ((th k).buf.flatMap hldCells) (hs.trans e1) e2 (flatHld_length _) e3 ad 1 1 (hldCells X) hx rfl hc (hldCells_one X) e4 (by unfold maxLen; omega) (by omega) ?_
    intro v' w' hown hgr
    have hb : Below w.heap.size w w' := ⟨hgr.os, hgr.tape, hgr.output, hgr.size, fun j hj => hgr.block j hj (by simp)⟩
    rcases hown.2 with ⟨_, h0⟩ | ⟨g, cp, cur, rfl, hg1, hg2, hg3, _, hg4, hg5⟩
    · omega
    · refine hK _ w' (hI.kept hb) ?_ ?_ (hb.mono hsz) (fun p hp _ => hb.cell hp) (PFr.below hb)
      · refine Or.inr ⟨g, 0, cp, by simp, by simpa using hg3, fun q hq => ?_, fun j hj => ?_⟩
        · refine HeldAt.of_cells fun j u hu => ?_
          have hj : j < 2 := by
            have := (List.getElem?_eq_some_iff.1 hu).1
            simpa [hldCells] using this
          have := hown.cells (g := g) rfl (q * 2 + j) u (by
            have e5 : (th k).buf.flatMap hldCells ++ hldCells X = ((th k).buf ++ [X]).flatMap hldCells := by simp
            rw [e5, flatHld_at _ q j hq hj]; exact hu)
          rw [addr_addP] at this
          rw [show 0 + q * 2 + j = 0 + (q * 2 + j) from by omega]
          exact this
        · rw [cell_of_row w' g (0 + j) cur e (0, 0) hg2]
          have hj2 : j < cur.size := by omega
          simp [hj2]
      · intro b hb'
        simp [Value.ownBlock] at hb'
        subst hb'
        refine ⟨⟨cur, hg2⟩, Nat.le_trans hsz hg1, fun j hj _ hjb => ?_⟩
        have := (hI.kb j g hj hjb).lt
        omega
  rcases hI.cb k hk with ⟨e1, e2⟩ | ⟨b, off, cap, e1, e2, e3, e4⟩
  · refine grows none 0 (by rw [e1, e2]; rfl) (fun _ => ⟨by rw [e2]; rfl, rfl⟩) (fun b hb => by cases hb) (by omega)
  · have holds : ∀ j u, ((th k).buf.flatMap hldCells)[j]? = some u → w.cell? ⟨b, off + j, none⟩ = some u := by
      intro j u hu
      have hj := (List.getElem?_eq_some_iff.1 hu).1
      rw [flatHld_length] at hj
      have hjd : j / 2 * 2 + j % 2 = j := by omega
      have := flatHld_at (th k).buf (j / 2) (j % 2) (by omega) (by omega)
      rw [hjd, hu] at this
      have := (e3 (j / 2) (by omega)).cells (j % 2) u this.symm
      rw [show off + j / 2 * 2 + j % 2 = off + j from by omega] at this
      exact this
    by_cases hroom : (th k).buf.length + 1 ≤ cap
    · have hbk : (L.bv k).ownBlock = some b := by rw [e1]; rfl
      have hB := hI.kb k b hk hbk
      refine step_append_room hg s x t hop e i 2 h1 h2 h4 b off (th k).buf.length cap (hs.trans e1) ad 1 1 (hldCells X) hx rfl hc (hldCells_one X) hroom (fun j hj => ⟨?_, hB.free _⟩) ?_
      · rw [Nat.add_assoc]
        exact e4 _ (by simp [hldCells] at hj; omega)
      · simp only [hldCells, World.setCells]
        have spare : ∀ (w1 : World) (o1 : Nat) (u : Value), PInv TM TT e w1 base L model n mem th → off + (th k).buf.length * 2 ≤ o1 → PInv TM TT e (w1.setCell ⟨b, o1, none⟩ u) base L model n mem th := by
          intro w1 o1 u h ho
          refine h.setSpare hk hbk u ?_
          have := h.cb k hk
          rw [e1] at this ⊢
          exact this.spare ho u
        have m1 := spare _ (off + (th k).buf.length * 2) (.int .i64 (X.cell : Int)) hI (by omega)
        have m2 := spare _ (off + (th k).buf.length * 2 + 1) (.int .i64 (X.val : Int)) m1 (by omega)
        have hbb := hI.bb k b hk hbk
        have some2 : ∀ j, j < 2 → ∃ y, w.cell? ⟨b, off + (th k).buf.length * 2 + j, none⟩ = some y := by
          intro j hj
          have := e4 ((th k).buf.length * 2 + j) (by omega)
          rw [← Nat.add_assoc] at this
          exact Option.isSome_iff_exists.1 this
        obtain ⟨y0, hy0⟩ := some2 0 (by omega)
        obtain ⟨y1, hy1⟩ := some2 1 (by omega)
        have hend := m2.cb k hk
        rw [e1] at hend
        refine hK _ _ m2 ?_ ?_ ?_ ?_ ((PFr.set hB (Or.inr (Or.inr rfl)) _ _).trans (PFr.set (hB.set _ _ _) (Or.inr (Or.inr rfl)) _ _))
        · rcases hend with ⟨h, _⟩ | ⟨b', off', cap', e, f1, f2, f3⟩
          · simp at h
          · simp only [Value.slice.injEq, Option.some.injEq, Addr.mk.injEq, and_true] at e
            obtain ⟨⟨rfl, rfl⟩, _, rfl⟩ := e
            refine Or.inr ⟨b, off, cap, by simp, by simpa using hroom, fun q hq => ?_, f3⟩
            by_cases hql : q < (th k).buf.length
            · rw [List.getElem?_append_left hql]; exact f2 q hql
            · have : q = (th k).buf.length := by simp at hq; omega
              subst this
              rw [List.getElem?_append_right (Nat.le_refl _), Nat.sub_self]
              refine ⟨?_, ?_⟩
              · rw [set_ne _ (Or.inr (by omega))]
                exact set_eq _ hy0
              · exact set_eq (x := y1) _ (by rw [set_ne _ (Or.inr (by omega))]; exact hy1)
        · intro b' hb'
          simp [Value.ownBlock] at hb'
          subst hb'
          exact ⟨(hB.set _ _ _).set _ _ _, hbb, fun j hj hjk => hI.dbb k j b hk hj (Ne.symm hjk) hbk⟩
        · exact ((Below.refl base w).setCell (p := ⟨b, _, none⟩) hbb _).setCell (p := ⟨b, _, none⟩) hbb _
        · intro p hp hne
          rw [hbk] at hne
          have hpb : p.block ≠ b := fun e => hne (by rw [e])
          have one : ∀ (w1 : World) (o1 : Nat) (u : Value), (w1.setCell ⟨b, o1, none⟩ u).cell? p = w1.cell? p := fun w1 o1 u => World.cell?_of_block (Below.heap_setCell _ _ _ _ hpb)
          rw [one, one]
    · refine grows (some ⟨b, off, none⟩) cap e1 (fun h => by cases h) (fun b' hb' j u hu => ?_) (by omega)
      simp at hb'
      subst hb'
      rw [addr_addP]
      exact holds j u hu

end Go.Proofs.YtokfiflflcfidabDoor

namespace Go.Proofs.YtokfiflflcfidabDoor
open Go.RowKit

/-- a move: the thread; does it drain? -/
def mvCells (m : Nat × Bool) : List Value := [.int .i64 (m.1 : Int), .bool m.2]
theorem mvCells_one (m : Nat × Bool) : ∀ u ∈ mvCells m, u.oneCell' = true := by
  intro u hu
  simp [mvCells] at hu
  rcases hu with rfl | rfl <;> rfl
theorem flatMv_at (l : List (Nat × Bool)) (i j : Nat) (hi : i < l.length) (hj : j < 2) : (l.flatMap mvCells)[i * 2 + j]? = (mvCells (l[i]?.getD (0, false)))[j]? := by
  induction l generalizing i with
  | nil => simp at hi
  | cons e l ih =>
    rw [List.flatMap_cons]
    have h6 : (mvCells e).length = 2 := rfl
    cases i with
    | zero => rw [List.getElem?_append_left (by omega)]; simp
    | succ i =>
      rw [List.getElem?_append_right (by omega), h6, show (i + 1) * 2 + j - 2 = i * 2 + j from by omega, ih i (by simpa using hi)]
      simp
/-- v owns the moves l -/
def OwnMv (w : World) (base T : Nat) (v : Value) (l : List (Nat × Bool)) : Prop := w.ownsRow base T 2 v l.length (l.flatMap mvCells)
theorem OwnMv.nil (w : World) (base T : Nat) : OwnMv w base T (.slice none 0 0) [] := World.ownsRow_nil w base T 2
theorem OwnMv.kept {w w' : World} {base T : Nat} {v : Value} {l : List (Nat × Bool)} (h : OwnMv w base T v l) (hb : Below w.heap.size w w') : OwnMv w' base T v l := ownsRow_kept h hb
/-- the moves of a list -/
def MvRd (w : World) (v : Value) (l : List (Nat × Bool)) : Prop :=
  ∃ a cap, v = .slice a l.length cap ∧ ∀ i, i < l.length → ∃ b off, a = some ⟨b, off, none⟩ ∧ b < w.heap.size ∧ w.cell? ⟨b, off + i * 2, none⟩ = some (.int .i64 (((l[i]?.getD (0, false)).1 : Nat) : Int)) ∧ w.cell? ⟨b, off + i * 2 + 1, none⟩ = some (.bool (l[i]?.getD (0, false)).2)
theorem MvRd.kept {w w' : World} {v : Value} {l : List (Nat × Bool)} (h : MvRd w v l) (hb : Below w.heap.size w w') : MvRd w' v l := by
  obtain ⟨a, cap, rfl, h1⟩ := h
  refine ⟨a, cap, rfl, fun i hi => ?_⟩
  obtain ⟨b, off, e, h2, h3, h4⟩ := h1 i hi
  exact ⟨b, off, e, Nat.lt_of_lt_of_le h2 hb.size, (hb.cell (p := ⟨b, _, none⟩) h2).trans h3, (hb.cell (p := ⟨b, _, none⟩) h2).trans h4⟩
theorem OwnMv.rd {w : World} {base T : Nat} {v : Value} {l : List (Nat × Bool)} (h : OwnMv w base T v l) : MvRd w v l := by
  have h' := h
  rcases h.2 with ⟨rfl, hn⟩ | ⟨g, cap, cur, rfl, hbg, hgg, _⟩
  · exact ⟨none, 0, by rw [hn], fun i hi => by omega⟩
  · refine ⟨_, cap, rfl, fun i hi => ⟨g, 0, rfl, (Array.getElem?_eq_some_iff.1 hgg).1, ?_, ?_⟩⟩
    · have := h'.cells (g := g) rfl (i * 2 + 0) (.int .i64 (((l[i]?.getD (0, false)).1 : Nat) : Int)) (by rw [flatMv_at l i 0 hi (by omega)]; rfl)
      rw [addr_addP] at this
      exact this
    · have := h'.cells (g := g) rfl (i * 2 + 1) (.bool (l[i]?.getD (0, false)).2) (by rw [flatMv_at l i 1 hi (by omega)]; rfl)
      rw [addr_addP, ← Nat.add_assoc] at this
      exact this
theorem mv_new (w : World) (T : Nat) (m : Nat × Bool) (j : Nat) (u : Value) (h : (mvCells m)[j]? = some u) : (w.alloc (.cells #[.int .i64 (m.1 : Int), .bool m.2] T)).cell? ((⟨w.heap.size, 0, none⟩ : Addr).add j) = some u := by
  rw [addr_addP]
  match j, h with
  | 0, h => simp [mvCells] at h; subst h; simp
  | 1, h => simp [mvCells] at h; subst h; simp
/-- 'list = append(list, move{..})' -/
theorem wpList_pushMv {P : Program} {wr : World} {ops : Array Oper} {rest : List Oper} {o : Oper} {a : Act} {Q : Exit → Act → World → Prop} (hgd : o.guard = none) (s x : Operand) (t : TypeId)
    (ho : o.op = .call { callee := .builtin .append, args := #[s, x], argTypes := #[t, t] })
    (base : Nat) (T : TypeId) (ht : P.underlying t = some (.slice T)) (hinfo : (P.info? T).map (fun i => (i.zero, i.size, i.bytes)) = some (some (.agg #[.int .i64 0, .bool false]), 2, 16))
    (v : Value) (l : List (Nat × Bool)) (m : Nat × Bool) (hs : a.eval s = v) (hx : a.eval x = .slice (some ⟨wr.heap.size, 0, none⟩) 1 1)
    (hown : OwnMv wr base T v l) (hlen : l.length ≤ 1000) (hbase : base ≤ wr.heap.size)
    (h : ∀ v' w', OwnMv w' base T v' (l ++ [m]) → Grew wr w' v v' → wpList P ops Q rest (a.put o.dst v') w') :
    wpList P ops Q (o :: rest) a (wr.alloc (.cells #[.int .i64 (m.1 : Int), .bool m.2] T)) := by
  refine wpList_pushK hgd s x t ho base T (.agg #[.int .i64 0, .bool false]) 2 16 ht hinfo rfl (by decide) v l.length (l.flatMap mvCells) #[.int .i64 (m.1 : Int), .bool m.2] (mvCells m) (mv_new wr T m) rfl (mvCells_one m) hs hx hown (by omega) (by unfold maxLen; omega) hbase ?_
  intro v' w' h1 h2
  refine h v' w' ?_ h2
  unfold OwnMv
  rw [List.length_append, List.flatMap_append]
  simpa using h1

theorem Tryd.infoMove : (Tryd.prog.info? 122).map (fun i => (i.zero, i.size, i.bytes)) = some (some (.agg #[.int .i64 0, .bool false]), 2, 16) := by kernel_rfl

set_option maxHeartbeats 400000 in
theorem isCell_m (c : Nat) (hc : c < 16) (w : World) : Calls Tryd.prog 103 #[.int .i64 c] w fun r w' => r = .returned (.bool true) ∧ w' = w := by
  have h0 : (0 : Int) ≤ (c : Int) := by omega
  have h1 : (c : Int) < 16 := by omega
  go_enter Tryd.func103, Tryd.ntmps103
  go_wp2
  go_ret
  exact ⟨rfl, rfl⟩
set_option maxHeartbeats 400000 in
theorem isReg_m (c : Nat) (hc : c < 16) (w : World) : Calls Tryd.prog 100 #[.int .i64 c] w fun r w' => r = .returned (.bool true) ∧ w' = w := by
  have h0 : (0 : Int) ≤ (c : Int) := by omega
  have h1 : (c : Int) < 16 := by omega
  go_enter Tryd.func100, Tryd.ntmps100
  go_wp2
  go_ret
  exact ⟨rfl, rfl⟩

set_option maxRecDepth 100000 in
set_option maxHeartbeats 800000 in
theorem canStep_any (code : List (List RIns)) (mem : Nat → Nat) (th : Nat → Th) (k base model : Nat) (L : PLoc) (w : World) (hI : PInv 136 139 147 w base L model code.length mem th) (hk : k < code.length) (ib io ic : Nat)
    (hins : ∀ i, i < (code[k]?.getD []).length → InsAt w ib (io + i * 4) ((code[k]?.getD [])[i]?.getD rins0)) :
    Calls Tryd.prog 88 #[.pointer (some ⟨L.gt, k * 18, none⟩), .slice (some ⟨ib, io, none⟩) (code[k]?.getD []).length ic] w fun r w' => r = .returned (.bool (canS code th k)) ∧ w' = w := by
  have t0 := hI.t0 k hk
  have t2 := hI.t2 k hk
  obtain ⟨a, bc, hbv⟩ := (hI.cb k hk).len
  rw [hbv] at t2
  have HC : Hid (canS code th k = (decide ((th k).pc < (code[k]?.getD []).length) && (!((insOf code k (th k).pc).op == 3) || (th k).buf.isEmpty))) := rfl
  have HI : Hid (∀ i, i < (code[k]?.getD []).length → w.cell? ⟨ib, io + i * 4, none⟩ = some (.int .i64 ((insOf code k i).op : Int))) := fun i hi => (hins i hi).op
  have hbe : (th k).buf.isEmpty = decide ((th k).buf.length = 0) := by cases (th k).buf <;> simp
  rw [hbe] at HC
  clear hI hbv hins hbe
  generalize (th k).buf.length = bl at *
  generalize (th k).pc = pc at *
  have hp0 : ¬ ((pc : Int) < 0) := by omega
  by_cases h1 : pc < (code[k]?.getD []).length
  · have hi := HI.out pc h1
    generalize (insOf code k pc).op = op at *
    generalize (code[k]?.getD []).length = cl at *
    rw [decide_eq_true h1, Bool.true_and] at HC
    have hd1 : ¬ ((cl : Int) ≤ (pc : Int)) := by omega
    by_cases h3 : op = 3
    · subst h3
      have HC2 : Hid (canS code th k = decide (bl = 0)) := by show _ = _; rw [HC.out]; rfl
      by_cases h0 : bl = 0
      · have h0i : ((bl : Int) == 0) = true := by rw [beq_iff_eq]; omega
        have HZ : Hid _ := h0
        clear h0
        go_enter Tryd.func88, Tryd.ntmps88
        go_wp2
        go_ret
        exact ⟨by rw [HC2.out, decide_eq_true HZ.out]; rfl, rfl⟩
      · have h0i : ((bl : Int) == 0) = false := by rw [beq_eq_false_iff_ne]; omega
        go_enter Tryd.func88, Tryd.ntmps88
        go_wp2
        go_ret
        exact ⟨by rw [HC2.out, decide_eq_false h0]; rfl, rfl⟩
    · have h3i : ((op : Int) != 3) = true := by rw [bne_iff_ne]; omega
      have HC2 : Hid (canS code th k = true) := by
        show _ = _
        rw [HC.out, show (op == 3) = false from by rw [beq_eq_false_iff_ne]; exact h3]; rfl
      go_enter Tryd.func88, Tryd.ntmps88
      go_wp2
      go_ret
      exact ⟨by rw [HC2.out]; rfl, rfl⟩
  · have HC2 : Hid (canS code th k = false) := by show _ = _; rw [HC.out, decide_eq_false h1]; rfl
    generalize (code[k]?.getD []).length = cl at *
    have hd1 : ((cl : Int) ≤ (pc : Int)) := by omega
    go_enter Tryd.func88, Tryd.ntmps88
    go_wp2
    go_ret
    exact ⟨by rw [HC2.out]; rfl, rfl⟩

set_option maxRecDepth 100000 in
set_option maxHeartbeats 400000 in
theorem canDrain_any (n : Nat) (mem : Nat → Nat) (th : Nat → Th) (k base model : Nat) (L : PLoc) (w : World) (hI : PInv 136 139 147 w base L model n mem th) (hk : k < n) :
    Calls Tryd.prog 89 #[.pointer (some ⟨L.gt, k * 18, none⟩)] w fun r w' => r = .returned (.bool (!(th k).buf.isEmpty)) ∧ w' = w := by
  have t2 := hI.t2 k hk
  obtain ⟨a, bc, hbv⟩ := (hI.cb k hk).len
  rw [hbv] at t2
  have HBE : Hid ((!(th k).buf.isEmpty) = decide (0 < (th k).buf.length)) := by show _ = _; cases (th k).buf <;> simp
  clear hI hbv
  go_enter Tryd.func89, Tryd.ntmps89
  go_wp2
  go_ret
  exact ⟨by rw [HBE.out]; rfl, rfl⟩

theorem OwnMv.below {w0 w w' : World} {base T : Nat} {v v' : Value} {l : List (Nat × Bool)} (h : OwnMv w base T v l) (hg : Grew w w' v v') (hb : Below base w0 w) (hB : base ≤ w.heap.size) : Below base w0 w' := hg.below hb hB h

set_option maxRecDepth 100000 in
set_option maxHeartbeats 800000 in
theorem pmoves_any (code : List (List RIns)) (mem : Nat → Nat) (th : Nat → Th) (base model : Nat) (L : PLoc) (cv : Value) (w : World) (hI : PInv 136 139 147 w base L model code.length mem th)
    (hC : CodesRd w cv code) (hl16 : code.length ≤ 16) :
    Calls Tryd.prog 73 #[.pointer (some ⟨L.M, 0, none⟩), cv] w fun r w' => ∃ v, r = .returned v ∧ OwnMv w' w.heap.size 122 v (mvs code th) ∧ Below w.heap.size w w' := by
  have c1 := hI.c1
  have hMl := hI.kM.lt
  have htl := hI.kt.lt
  obtain ⟨_, cb, co, cc, rfl, hcbl, hcc⟩ := hC
  have HCC : Hid _ := hcc
  clear hcc
  go_enter Tryd.func73, Tryd.ntmps73
  go_wp2
  go_loopw [5, 10] (fun v i wr => ∃ k : Nat, k ≤ code.length ∧ i = .int .i64 k ∧ OwnMv wr w.heap.size 122 v (mvTo code th k) ∧ Below w.heap.size w wr) (fun _ i _ => code.length - (intOf i).toNat)
  case atStart => exact ⟨0, Nat.zero_le _, rfl, OwnMv.nil _ _ _, Below.refl _ _⟩
  case round =>
    obtain ⟨k, hk, rfl, hown, hb⟩ := hrel
    have hml := mvTo_length code th k
    have HB : Hid _ := hb
    have HO : Hid (OwnMv wr w.heap.size 122 _ (mvTo code th k)) := hown
    have hbs := hb.size
    by_cases hlt : k < code.length
    · obtain ⟨vk, hvk, _, ib, io, ic, rfl, hibl, hins⟩ := HCC.out k hlt
      have hvk2 := (hb.cell (p := ⟨cb, co + k, none⟩) hcbl).trans hvk
      have c12 := (hb.cell (p := ⟨L.M, 1, none⟩) hMl).trans c1
      have HIR : Hid _ := hI.kept hb
      have HINS : Hid (∀ i, i < (code[k]?.getD []).length → InsAt wr ib (io + i * 4) ((code[k]?.getD [])[i]?.getD rins0)) := fun i hi => (hins i hi).kept hb hibl
      have hklt : ¬ ((code.length : Int) ≤ (k : Int)) := by omega
      have HS : Hid (mvTo code th (k + 1) = (mvTo code th k ++ if canS code th k then [(k, false)] else []) ++ if (th k).buf.isEmpty then [] else [(k, true)]) := rfl
      have hmLr : L.M < wr.heap.size := by omega
      have HIRx : Hid (PInv 136 139 147 wr base L model code.length mem th) := HIR.out
      have HCS : Hid _ := canStep_any code mem th k base model L wr HIR.out hlt ib io ic HINS.out
      clear hown hb hvk hins HIR
      clear HINS
      generalize mvTo code th k = mk at *
      generalize (code[k]?.getD []).length = cl at *
      go_wp2_with fail
      refine Calls.mono HCS.out ?_
      rintro r w1 ⟨rfl, rfl⟩
      cases hc : canS code th k
      · go_wp2_with fail
        refine (canDrain_any code.length mem th k base model L _ HIRx.out hlt).mono ?_
        rintro r w1 ⟨rfl, rfl⟩
        cases hd : (th k).buf.isEmpty
        · have HS2 : Hid (mvTo code th (k + 1) = mk ++ [(k, true)]) := by show _ = _; rw [HS.out, hc, hd]; simp
          clear hc hd HS
          go_wp2_with (at_builtin; go_must (refine wpList_pushMv rfl _ _ 88 rfl w.heap.size 122 Tryd.underlying88 Tryd.infoMove _ mk (k, true) (by rfl) (by rfl) HO.out (by omega) hbs ?_); intro v' w7 hown7 hg7; have HO7 : Hid _ := hown7; have HB7 : Hid (Below w.heap.size w w7) := OwnMv.below HO.out hg7 HB.out hbs; clear hown7 hg7)
          go_roundw
          case rel => exact ⟨k + 1, by omega, by go_num, by rw [HS2.out]; exact HO7.out, HB7.out⟩
          case measure => simp [intOf]; omega
        · have HS2 : Hid (mvTo code th (k + 1) = mk) := by show _ = _; rw [HS.out, hc, hd]; simp
          clear hc hd HS
          go_wp2
          go_roundw
          case rel => exact ⟨k + 1, by omega, by go_num, by rw [HS2.out]; exact HO.out, HB.out⟩
          case measure => simp [intOf]; omega
      · go_wp2_with (first | (at_builtin; go_must (refine wpList_pushMv rfl _ _ 88 rfl w.heap.size 122 Tryd.underlying88 Tryd.infoMove _ mk (k, false) (by rfl) (by rfl) HO.out (by omega) hbs ?_); intro v' w7 hown7 hg7; have HO7 : Hid (OwnMv w7 w.heap.size 122 v' (mk ++ [(k, false)])) := hown7; have HB7 : Hid (Below w.heap.size w w7) := OwnMv.below HO.out hg7 HB.out hbs; have hbs7 : w.heap.size ≤ w7.heap.size := HB7.out.size; have c17 := (HB7.out.cell (p := ⟨L.M, 1, none⟩) hMl).trans c1; have HI7 : Hid _ := hI.kept HB7.out; clear hown7 hg7 c12 hvk2) | fail)
        refine (canDrain_any code.length mem th k base model L _ HI7.out hlt).mono ?_
        rintro r w8 ⟨rfl, rfl⟩
        have hml2 : (mk ++ [(k, false)]).length ≤ 1000 := by simp; omega
        cases hd : (th k).buf.isEmpty
        · have HS2 : Hid (mvTo code th (k + 1) = mk ++ [(k, false)] ++ [(k, true)]) := by show _ = _; rw [HS.out, hc, hd]; simp
          clear hc hd HS
          go_wp2_with (at_builtin; go_must (refine wpList_pushMv rfl _ _ 88 rfl w.heap.size 122 Tryd.underlying88 Tryd.infoMove _ (mk ++ [(k, false)]) (k, true) (by rfl) (by rfl) HO7.out hml2 hbs7 ?_); intro v' w9 hown9 hg9; have HO9 : Hid _ := hown9; have HB9 : Hid (Below w.heap.size w w9) := OwnMv.below HO7.out hg9 HB7.out hbs7; clear hown9 hg9)
          go_roundw
          case rel => exact ⟨k + 1, by omega, by go_num, by rw [HS2.out]; exact HO9.out, HB9.out⟩
          case measure => simp [intOf]; omega
        · have HS2 : Hid (mvTo code th (k + 1) = mk ++ [(k, false)]) := by show _ = _; rw [HS.out, hc, hd]; simp
          clear hc hd HS
          go_wp2
          go_roundw
          case rel => exact ⟨k + 1, by omega, by go_num, by rw [HS2.out]; exact HO7.out, HB7.out⟩
          case measure => simp [intOf]; omega
    · have : k = code.length := by omega
      subst this
      clear hown
      go_wp2
      go_ret
      exact ⟨_, rfl, HO.out, HB.out⟩

end Go.Proofs.YtokfiflflcfidabDoor

namespace Go.Proofs.YtokfiflflcfidabDoor
open Go.RowKit

/-- what a move leaves: the machine in its new state, and nothing else touched that was there at base -/
def PMoved (TM TT TX : Nat) (w w' : World) (base : Nat) (L : PLoc) (model n : Nat) (mem : Nat → Nat) (th : Nat → Th) : Prop :=
  ∃ L' : PLoc, L'.M = L.M ∧ PInv TM TT TX w' base L' model n mem th ∧ Below base w w' ∧ PFr TM TT TX w w'

set_option maxRecDepth 100000 in
set_option maxHeartbeats 400000 in
theorem pwrite_any (n : Nat) (mem : Nat → Nat) (th : Nat → Th) (c v base model : Nat) (L : PLoc) (w : World) (hI : PInv 136 139 147 w base L model n mem th) (hc : c < 16) :
    Calls Tryd.prog 98 #[.pointer (some ⟨L.M, 0, none⟩), .int .i64 c, .int .i64 v] w fun r w' => r = .returned (.tuple #[]) ∧ w' = w.setCell ⟨L.M, 2 + c, none⟩ (.int .i64 v) := by
  have cm := hI.cm c hc
  have hf := hI.kM.free (2 + c)
  have hci : (c : Int) < 16 := by omega
  clear hI
  go_enter Tryd.func98, Tryd.ntmps98
  go_wp2_with (go_at_call 103; refine (isCell_m c hc _).mono ?_; rintro r w1 ⟨rfl, rfl⟩)
  go_end0
  exact ⟨rfl, rfl⟩

set_option maxRecDepth 100000 in
set_option maxHeartbeats 400000 in
theorem pread_any (n : Nat) (mem : Nat → Nat) (th : Nat → Th) (c base model : Nat) (L : PLoc) (w : World) (hI : PInv 136 139 147 w base L model n mem th) (hc : c < 16) :
    Calls Tryd.prog 104 #[.pointer (some ⟨L.M, 0, none⟩), .int .i64 c] w fun r w' => r = .returned (.int .i64 ((mem c : Nat) : Int)) ∧ w' = w := by
  have cm := hI.cm c hc
  have hci : (c : Int) < 16 := by omega
  clear hI
  go_enter Tryd.func104, Tryd.ntmps104
  go_wp2_with (go_at_call 103; refine (isCell_m c hc _).mono ?_; rintro r w1 ⟨rfl, rfl⟩)
  go_ret
  exact ⟨rfl, rfl⟩

set_option maxRecDepth 100000 in
set_option maxHeartbeats 800000 in
theorem pseen_any (n : Nat) (mem : Nat → Nat) (th : Nat → Th) (k c base model : Nat) (L : PLoc) (w : World) (hI : PInv 136 139 147 w base L model n mem th) (hk : k < n) (hc : c < 16) (hbl : (th k).buf.length ≤ 1000) :
    Calls Tryd.prog 99 #[.pointer (some ⟨L.M, 0, none⟩), .pointer (some ⟨L.gt, k * 18, none⟩), .int .i64 c] w fun r w' => r = .returned (.int .i64 ((loadS mem th k c : Nat) : Int)) ∧ w' = w := by
  have t2 := hI.t2 k hk
  have hcb := hI.cb k hk
  have HB2 : Hid (∀ i, i < (th k).buf.length → ∃ b off, ∃ cap, L.bv k = .slice (some ⟨b, off, none⟩) (th k).buf.length cap ∧ HeldAt w b (off + i * 2) ((th k).buf[i]?.getD rins0)) := by
    intro i hi
    rcases hcb with ⟨_, h⟩ | ⟨b, off, cap, h1, _, h2, _⟩
    · rw [h] at hi; simp at hi
    · exact ⟨b, off, cap, h1, h2 i hi⟩
  obtain ⟨a, bc, hbv⟩ := hcb.len
  rw [hbv] at t2
  have HBV : Hid _ := hbv
  have HLD : Hid (loadS mem th k c = (ldTo (th k).buf c (th k).buf.length).getD (mem c)) := rfl
  have HS : Hid (∀ n, ldTo (th k).buf c (n + 1) = if ((th k).buf[n]?.getD rins0).cell = c then some ((th k).buf[n]?.getD rins0).val else ldTo (th k).buf c n) := fun _ => rfl
  have HZ : Hid (ldTo (th k).buf c 0 = none) := rfl
  have HRD : Hid _ := pread_any n mem th c base model L w hI hc
  clear hcb hbv hI
  generalize (th k).buf.length = bl at *
  go_enter Tryd.func99, Tryd.ntmps99
  go_wp2
  go_loop [7] (fun i => ∃ m : Nat, m ≤ bl ∧ i = .int .i64 ((m : Int) - 1) ∧ ldTo (th k).buf c m = ldTo (th k).buf c bl) (fun i => ((intOf i) + 1).toNat)
  case atStart => exact ⟨bl, Nat.le_refl _, rfl, rfl⟩
  case round =>
    obtain ⟨m, hm, rfl, hld⟩ := hrel
    have HL : Hid _ := hld
    clear hld
    by_cases hm0 : 0 < m
    · obtain ⟨i, rfl⟩ : ∃ i, m = i + 1 := ⟨m - 1, by omega⟩
      obtain ⟨b, off, cap, hb1, hH⟩ := HB2.out i (by omega)
      have hbe := HBV.out.symm.trans hb1
      simp only [Value.slice.injEq] at hbe
      obtain ⟨rfl, _, rfl⟩ := hbe
      have x0 := hH.cell
      have x1 := hH.val
      have e1 : (((i + 1 : Nat) : Int) - 1) = (i : Int) := by omega
      rw [e1]
      have HS1 : Hid _ := HS.out i
      clear hH hb1
      generalize ((th k).buf[i]?.getD rins0).cell = xc at *
      generalize ((th k).buf[i]?.getD rins0).val = xv at *
      by_cases hx : xc = c
      · subst hx
        have HR : Hid (loadS mem th k xc = xv) := by show _ = _; rw [HLD.out, ← HL.out, HS1.out, if_pos rfl]; rfl
        go_wp2
        go_ret
        exact ⟨by rw [HR.out]; rfl, rfl⟩
      · have hxi : ((xc : Int) == (c : Int)) = false := by rw [beq_eq_false_iff_ne]; omega
        have HL2 : Hid (ldTo (th k).buf c i = ldTo (th k).buf c bl) := by show _ = _; rw [← HL.out, HS1.out, if_neg hx]
        clear hx
        go_wp2
        go_round
        case rel => exact ⟨i, by omega, by go_num, HL2.out⟩
        case measure => simp [intOf]
    · have : m = 0 := by omega
      subst this
      have HR : Hid (loadS mem th k c = mem c) := by show _ = _; rw [HLD.out, ← HL.out, HZ.out]; rfl
      go_wp2_with fail
      refine Calls.mono HRD.out ?_
      rintro r w1 ⟨rfl, rfl⟩
      go_wp2
      go_ret
      exact ⟨by rw [HR.out]; rfl, rfl⟩

set_option maxRecDepth 100000 in
set_option maxHeartbeats 1600000 in
theorem pdrain_any (n : Nat) (mem : Nat → Nat) (th : Nat → Th) (k base model : Nat) (L : PLoc) (w : World) (hI : PInv 136 139 147 w base L model n mem th)
    (hk : k < n) (x : RIns) (l : List RIns) (hx : (th k).buf = x :: l) (hc : x.cell < 16) :
    Calls Tryd.prog 90 #[.pointer (some ⟨L.M, 0, none⟩), .pointer (some ⟨L.gt, k * 18, none⟩)] w fun r w' => r = .returned (.tuple #[]) ∧
      PMoved 136 139 147 w w' base L model n (updN mem x.cell x.val) (updN th k { th k with buf := l }) := by
  have hbuf := hI.cb k hk
  have t2 := hI.t2 k hk
  rw [hx] at hbuf
  rcases hbuf with ⟨_, h⟩ | ⟨b, off, cap, hbv, hcap, hins, hsp⟩
  · simp at h
  have hown : (L.bv k).ownBlock = some b := by rw [hbv]; rfl
  have HEND : Hid (∀ (o : Obj) (v : Value), (v = .slice (some ⟨b, off + 2, none⟩) l.length (cap - 1) ∨ (l = [] ∧ v = .slice (some ⟨b, off, none⟩) l.length 0)) →
      PInv 136 139 147 ((w.setCell ⟨L.gt, k * 18 + 17, none⟩ v).alloc o) base { L with bv := updN L.bv k v } model n mem (updN th k { th k with buf := l }) ∧ Below base w ((w.setCell ⟨L.gt, k * 18 + 17, none⟩ v).alloc o) ∧ PFr 136 139 147 w ((w.setCell ⟨L.gt, k * 18 + 17, none⟩ v).alloc o)) := by
    intro o v hv
    have hvown : v.ownBlock = some b := by rcases hv with rfl | ⟨_, rfl⟩ <;> rfl
    have hBv : Buf2 w v l := by
      rcases hv with rfl | ⟨rfl, rfl⟩
      · refine Or.inr ⟨b, off + 2, cap - 1, rfl, by simp at hcap; omega, fun i hi => ?_, fun j hj => ?_⟩
        · have := hins (i + 1) (by simp; omega)
          have e : off + (i + 1) * 2 = off + 2 + i * 2 := by omega
          rw [e] at this
          simpa using this
        · have := hsp (2 + j) (by omega)
          rw [show off + (2 + j) = off + 2 + j from by omega] at this
          exact this
      · exact Or.inr ⟨b, off, 0, rfl, by simp, fun i hi => by simp at hi, fun j hj => by omega⟩
    have hB := hI.setBuf hk v l hBv (fun b' e => by
      rw [hvown] at e
      simp at e
      subst e
      exact ⟨hI.kb k b hk hown, hI.bb k b hk hown, fun j hj hjk => hI.dbb k j b hk hj (Ne.symm hjk) hown⟩)
    exact ⟨hB.kept ((Below.refl _ _).alloc (Nat.le_refl _) o), ((Below.refl base w).setCell (p := ⟨L.gt, k * 18 + 17, none⟩) hI.bt _).alloc (by simp; exact hI.size) o, (PFr.set hI.kt (Or.inr (Or.inl rfl)) _ _).trans (PFr.alloc _ o)⟩
  rw [hbv] at t2
  have hl1 : (x :: l).length = l.length + 1 := rfl
  rw [hl1] at t2 hcap
  have hX := hins 0 (by simp)
  have x2 := hX.cell
  have x3 := hX.val
  simp only [Nat.zero_mul, Nat.add_zero, List.getElem?_cons_zero, Option.getD_some] at x2 x3
  have hft := hI.kt.free (k * 18 + 17)
  have htl := hI.kt.lt
  have hbl : b < w.heap.size := (hI.kb k b hk hown).lt
  have hbM := hI.bM
  clear hX hins hsp hown hl1 hx hbv
  have hgt2 : ¬ (L.gt = w.heap.size) := by omega
  have hb2 : ¬ (b = w.heap.size) := by omega
  go_enter Tryd.func90, Tryd.ntmps90
  go_wp2_with fail
  · have hl0 : l = [] := List.eq_nil_of_length_eq_zero (by omega)
    obtain ⟨k1, k2, k3⟩ := HEND.out (.cells #[.int .i64 (x.cell : Int), .int .i64 (x.val : Int)] 147) (.slice (some ⟨b, off, none⟩) l.length 0) (Or.inr ⟨hl0, rfl⟩)
    have K1 : Hid _ := k1.setMem hc x.val
    have K2 : Hid _ := k2.setCell (p := ⟨L.M, 2 + x.cell, none⟩) hbM (.int .i64 (x.val : Int))
    have K3 : Hid _ := k3.trans (PFr.set k1.kM (Or.inl rfl) (2 + x.cell) (.int .i64 (x.val : Int)))
    refine (pwrite_any n mem _ x.cell x.val base model _ _ k1 hc).mono ?_
    rintro r w1 ⟨rfl, rfl⟩
    clear k1 k2 k3 hl0
    go_wp2
    go_end0
    exact ⟨rfl, ⟨L.M, L.gt, L.tcap, updN L.bv k (.slice (some ⟨b, off, none⟩) l.length 0)⟩, rfl, K1.out, K2.out, K3.out⟩
  · obtain ⟨k1, k2, k3⟩ := HEND.out (.cells #[.int .i64 (x.cell : Int), .int .i64 (x.val : Int)] 147) (.slice (some ⟨b, off + 2, none⟩) l.length (cap - 1)) (Or.inl rfl)
    have K1 : Hid _ := k1.setMem hc x.val
    have K2 : Hid _ := k2.setCell (p := ⟨L.M, 2 + x.cell, none⟩) hbM (.int .i64 (x.val : Int))
    have K3 : Hid _ := k3.trans (PFr.set k1.kM (Or.inl rfl) (2 + x.cell) (.int .i64 (x.val : Int)))
    refine (pwrite_any n mem _ x.cell x.val base model _ _ k1 hc).mono ?_
    rintro r w1 ⟨rfl, rfl⟩
    clear k1 k2 k3
    go_wp2
    go_end0
    exact ⟨rfl, ⟨L.M, L.gt, L.tcap, updN L.bv k (.slice (some ⟨b, off + 2, none⟩) l.length (cap - 1))⟩, rfl, K1.out, K2.out, K3.out⟩

end Go.Proofs.YtokfiflflcfidabDoor

namespace Go.Proofs.YtokfiflflcfidabDoor
open Go.RowKit
attribute [local go_sem ↓] Go.wp_at_zero Go.wp_at_succ

/-- the memory and thread k behind an instruction -/
def insM (x : RIns) (model : Nat) (mem : Nat → Nat) : Nat → Nat := if x.op = 1 ∧ model = 0 then updN mem x.cell x.val else mem
def insT (x : RIns) (model : Nat) (mem : Nat → Nat) (th : Nat → Th) (k : Nat) : Th :=
  ⟨(th k).pc, if x.op = 2 then (th k).regs.set x.reg (loadS mem th k x.cell) else (th k).regs, if x.op = 1 ∧ model = 1 then (th k).buf ++ [x] else (th k).buf⟩
theorem updN_self (th : Nat → Th) (k : Nat) : updN th k (th k) = th := by funext j; unfold updN; split <;> simp_all

theorem Tryd.infoHeld : (Tryd.prog.info? 147).map (fun i => (i.zero, i.size, i.bytes)) = some (some (.agg #[.int .i64 0, .int .i64 0]), 2, 16) := by kernel_rfl

set_option maxRecDepth 100000 in
set_option maxHeartbeats 800000 in
theorem pstep_any0 (n : Nat) (mem : Nat → Nat) (th : Nat → Th) (k base model : Nat) (L : PLoc) (w : World) (hI : PInv 136 139 147 w base L model n mem th)
    (hk : k < n) (x : RIns) (hc : x.cell < 16) (hr : x.reg < 16) (hrl : (th k).regs.length = 16) (hbl : (th k).buf.length ≤ 32) (hop : x.op = 3 ∨ x.op = 2 ∨ (x.op = 1 ∧ model = 0)) :
    Calls Tryd.prog 91 #[.pointer (some ⟨L.M, 0, none⟩), .pointer (some ⟨L.gt, k * 18, none⟩), .agg #[.int .i64 x.op, .int .i64 x.reg, .int .i64 x.cell, .int .i64 x.val]] w fun r w' => r = .returned (.tuple #[]) ∧
      PMoved 136 139 147 w w' base L model n (insM x model mem) (updN th k (insT x model mem th k)) := by
  have hal : ∀ (W : World) (o : Obj), PInv 136 139 147 W base L model n mem th → PInv 136 139 147 (W.alloc o) base L model n mem th := fun W o h => h.kept ((Below.refl _ _).alloc (Nat.le_refl _) o)
  have c0 := hI.c0
  have hMl := hI.kM.lt
  have htl := hI.kt.lt
  have hMn : ¬ (L.M = w.heap.size) := by omega
  have htn : ¬ (L.gt = w.heap.size) := by omega
  have hsz := hI.size
  rcases hop with h | h | ⟨h, hm⟩
  · have HE : Hid (insM x model mem = mem ∧ updN th k (insT x model mem th k) = th) := by
      refine ⟨by unfold insM; rw [h]; simp, ?_⟩
      have : insT x model mem th k = th k := by unfold insT; rw [h]; simp
      rw [this, updN_self]
    have HA : Hid (∀ o, PInv 136 139 147 (w.alloc o) base L model n mem th ∧ Below base w (w.alloc o) ∧ PFr 136 139 147 w (w.alloc o)) := fun o => ⟨hal w o hI, (Below.refl _ _).alloc hsz _, PFr.alloc w o⟩
    rw [h]
    clear hI hal
    go_enter Tryd.func91, Tryd.ntmps91
    go_wp2
    go_end0
    exact ⟨rfl, L, rfl, by rw [HE.out.1, HE.out.2]; exact (HA.out _).1, (HA.out _).2.1, (HA.out _).2.2⟩
  · have HE : Hid (insM x model mem = mem ∧ insT x model mem th k = { th k with regs := (th k).regs.set x.reg (loadS mem th k x.cell) }) := by
      refine ⟨by unfold insM; rw [h]; simp, ?_⟩
      unfold insT; rw [h]; simp
    have HSN : Hid (∀ o, Calls Tryd.prog 99 #[.pointer (some ⟨L.M, 0, none⟩), .pointer (some ⟨L.gt, k * 18, none⟩), .int .i64 x.cell] (w.alloc o) fun r w' => r = .returned (.int .i64 ((loadS mem th k x.cell : Nat) : Int)) ∧ w' = w.alloc o) := fun o => pseen_any n mem th k x.cell base model L _ (hal w o hI) hk hc (by omega)
    have HST : Hid (∀ (o : Obj) (m : Nat), PInv 136 139 147 (((w.setCell ⟨L.gt, k * 18 + 1 + x.reg, none⟩ (.int .i64 ((loadS mem th k x.cell : Nat) : Int))).alloc o).drewN m) base L model n mem (updN th k { th k with regs := (th k).regs.set x.reg (loadS mem th k x.cell) }) ∧ Below base w (((w.setCell ⟨L.gt, k * 18 + 1 + x.reg, none⟩ (.int .i64 ((loadS mem th k x.cell : Nat) : Int))).alloc o).drewN m) ∧ PFr 136 139 147 w (((w.setCell ⟨L.gt, k * 18 + 1 + x.reg, none⟩ (.int .i64 ((loadS mem th k x.cell : Nat) : Int))).alloc o).drewN m)) :=
      fun o m => ⟨((hI.setReg hk hr hrl (loadS mem th k x.cell)).kept ((Below.refl _ _).alloc (Nat.le_refl _) o)).drew m, below_drewN (((Below.refl base w).setCell (p := ⟨L.gt, k * 18 + 1 + x.reg, none⟩) hI.bt _).alloc (by simp; exact hsz) o) m, ((PFr.set hI.kt (Or.inr (Or.inl rfl)) _ _).trans (PFr.alloc _ o)).trans (PFr.drew _ m)⟩
    have tr := hI.tr k x.reg hk hr
    have hf := hI.kt.free (k * 18 + 1 + x.reg)
    have hri : (x.reg : Int) < 16 := by omega
    rw [h]
    clear hI hal
    generalize loadS mem th k x.cell = lv at *
    go_enter Tryd.func91, Tryd.ntmps91
    go_wp2_with fail
    refine Calls.mono (HSN.out _) ?_
    rintro r w1 ⟨rfl, rfl⟩
    go_wp2_with (go_at_call 100; refine (isReg_m x.reg hr _).mono ?_; rintro r w1 ⟨rfl, rfl⟩)
    go_region
    go_wp2
    go_end0
    exact ⟨rfl, L, rfl, by rw [HE.out.1, HE.out.2]; exact (HST.out _ 1).1, (HST.out _ 1).2.1, (HST.out _ 1).2.2⟩
  · subst hm
    have HE : Hid (insM x 0 mem = updN mem x.cell x.val ∧ updN th k (insT x 0 mem th k) = th) := by
      refine ⟨by unfold insM; rw [h]; simp, ?_⟩
      have : insT x 0 mem th k = th k := by unfold insT; rw [h]; simp
      rw [this, updN_self]
    have HWR : Hid (∀ o, Calls Tryd.prog 98 #[.pointer (some ⟨L.M, 0, none⟩), .int .i64 x.cell, .int .i64 x.val] (w.alloc o) fun r w' => r = .returned (.tuple #[]) ∧ w' = (w.alloc o).setCell ⟨L.M, 2 + x.cell, none⟩ (.int .i64 x.val)) := fun o => pwrite_any n mem th x.cell x.val base 0 L _ (hal w o hI) hc
    have HST : Hid (∀ o, PInv 136 139 147 ((w.setCell ⟨L.M, 2 + x.cell, none⟩ (.int .i64 (x.val : Int))).alloc o) base L 0 n (updN mem x.cell x.val) th ∧ Below base w ((w.setCell ⟨L.M, 2 + x.cell, none⟩ (.int .i64 (x.val : Int))).alloc o) ∧ PFr 136 139 147 w ((w.setCell ⟨L.M, 2 + x.cell, none⟩ (.int .i64 (x.val : Int))).alloc o)) :=
      fun o => ⟨(hI.setMem hc x.val).kept ((Below.refl _ _).alloc (Nat.le_refl _) o), ((Below.refl base w).setCell (p := ⟨L.M, 2 + x.cell, none⟩) hI.bM _).alloc (by simp; exact hsz) o, (PFr.set hI.kM (Or.inl rfl) _ _).trans (PFr.alloc _ o)⟩
    rw [h]
    clear hI hal
    go_enter Tryd.func91, Tryd.ntmps91
    go_wp2_with fail
    refine Calls.mono (HWR.out _) ?_
    rintro r w1 ⟨rfl, rfl⟩
    go_wp2
    go_end0
    exact ⟨rfl, L, rfl, by rw [HE.out.1, HE.out.2]; exact (HST.out _).1, (HST.out _).2.1, (HST.out _).2.2⟩

set_option maxRecDepth 100000 in
set_option maxHeartbeats 8000000 in
theorem pstep_any1 (n : Nat) (mem : Nat → Nat) (th : Nat → Th) (k base : Nat) (L : PLoc) (w : World) (hI : PInv 136 139 147 w base L 1 n mem th)
    (hk : k < n) (x : RIns) (hbl : (th k).buf.length ≤ 32) (h : x.op = 1) :
    Calls Tryd.prog 91 #[.pointer (some ⟨L.M, 0, none⟩), .pointer (some ⟨L.gt, k * 18, none⟩), .agg #[.int .i64 x.op, .int .i64 x.reg, .int .i64 x.cell, .int .i64 x.val]] w fun r w' => r = .returned (.tuple #[]) ∧
      PMoved 136 139 147 w w' base L 1 n (insM x 1 mem) (updN th k (insT x 1 mem th k)) := by
  have hbA : Below base w (w.alloc (.cells #[.int .i64 1, .int .i64 x.reg, .int .i64 x.cell, .int .i64 x.val] 97)) := (Below.refl _ _).alloc hI.size _
  have hIA := hI.kept ((Below.refl _ _).alloc (Nat.le_refl _) (.cells #[.int .i64 1, .int .i64 x.reg, .int .i64 x.cell, .int .i64 x.val] 97))
  have c0 := hI.c0
  have hMl := hI.kM.lt
  have htl := hI.kt.lt
  have hMn : ¬ (L.M = w.heap.size) := by omega
  have htn : ¬ (L.gt = w.heap.size) := by omega
  have hbt := hI.bt
  have hsz := hI.size
  have HE : Hid (insM x 1 mem = mem ∧ insT x 1 mem th k = { th k with buf := (th k).buf ++ [x] }) := by
    refine ⟨by unfold insM; rw [h]; simp, ?_⟩
    unfold insT; rw [h]; simp
  have HBO : Hid ((L.bv k).ownBlock ≠ some w.heap.size) := fun e => Nat.lt_irrefl _ (hI.kb k _ hk e).lt
  obtain ⟨i0, hi, hz0, hz1, hz2⟩ := info_parts Tryd.infoHeld
  obtain ⟨W, hW⟩ : ∃ W, W = w.alloc (.cells #[.int .i64 1, .int .i64 x.reg, .int .i64 x.cell, .int .i64 x.val] 97) := ⟨_, rfl⟩
  rw [← hW] at hbA hIA
  have hWs : W.heap.size = w.heap.size + 1 := by rw [hW]; simp
  have z0 : W.cell? ⟨w.heap.size, 0, none⟩ = some (.int .i64 1) := by rw [hW]; simp
  have z2 : W.cell? ⟨w.heap.size, 2, none⟩ = some (.int .i64 (x.cell : Int)) := by rw [hW]; simp
  have z3 : W.cell? ⟨w.heap.size, 3, none⟩ = some (.int .i64 (x.val : Int)) := by rw [hW]; simp
  have HN2 : Hid (∀ (m j : Nat) (u : Value), (hldCells x)[j]? = some u → ((W.alloc (.cells #[.int .i64 (x.cell : Int), .int .i64 (x.val : Int)] 147)).drewN m).cell? ((⟨w.heap.size + 1, 0, none⟩ : Addr).add j) = some u) := by
    intro m j u hu
    rw [addr_addP, ← hWs]
    match j, hu with
    | 0, hu => simp [hldCells] at hu; subst hu; simp
    | 1, hu => simp [hldCells] at hu; subst hu; simp
  have HK2 : Hid (∀ (o : Obj) (m : Nat), PInv 136 139 147 ((W.alloc o).drewN m) base L 1 n mem th) := fun o m => (hIA.kept ((Below.refl _ _).alloc (Nat.le_refl _) o)).drew m
  have HBW : Hid (∀ (o : Obj) (m : Nat) (w5 : World), Below base ((W.alloc o).drewN m) w5 → Below base w w5) := fun o m w5 h => (below_drewN (hbA.alloc (by omega) o) m).trans h
  have hFW : PFr 136 139 147 w W := by rw [hW]; exact PFr.alloc _ _
  have HFW : Hid (∀ (o : Obj) (m : Nat) (w5 : World), PFr 136 139 147 ((W.alloc o).drewN m) w5 → PFr 136 139 147 w w5) := fun o m w5 h => ((hFW.trans (PFr.alloc _ o)).trans (PFr.drew _ m)).trans h
  clear hFW
  have HEND : Hid (∀ (w4 : World) (v' : Value), PInv 136 139 147 w4 base L 1 n mem th → Buf2 w4 v' ((th k).buf ++ [x]) → (∀ b, v'.ownBlock = some b → Blk w4 b 147 ∧ base ≤ b ∧ ∀ j, j < n → j ≠ k → (L.bv j).ownBlock ≠ some b) → Below base w w4 → PFr 136 139 147 w w4 →
      PMoved 136 139 147 w (w4.setCell ⟨L.gt, k * 18 + 17, none⟩ v') base L 1 n (insM x 1 mem) (updN th k (insT x 1 mem th k))) := by
    intro w4 v' q1 q2 q3 q4 q6
    rw [HE.out.1, HE.out.2]
    exact ⟨{ L with bv := updN L.bv k v' }, rfl, q1.setBuf hk v' _ q2 q3, q4.setCell (p := ⟨L.gt, k * 18 + 17, none⟩) hbt _, q6.trans (PFr.set q1.kt (Or.inr (Or.inl rfl)) _ _)⟩
  have t2 := hIA.t2 k hk
  have hft2 := hIA.kt.free (k * 18 + 17)
  have hWt : L.gt < W.heap.size := hIA.kt.lt
  have hWl : L.M < W.heap.size := hIA.kM.lt
  have hWo : ∀ {o : Obj} {m : Nat}, w.heap.size < ((W.alloc o).drewN m).heap.size := by intro o m; simp; omega
  have c0W := hIA.c0
  rw [h]
  have hcW : w.alloc (.cells #[.int .i64 1, .int .i64 x.reg, .int .i64 x.cell, .int .i64 x.val] 97) = W := hW.symm
  have HBL : Hid _ := hbl
  clear hI hIA hbA hW
  go_enter Tryd.func91, Tryd.ntmps91
  go_wp2
  go_region_law ((refine step_append_held rfl (.tmp 26) (.tmp 32) 137 rfl 147 i0 _ Tryd.underlying137 hi hz0 hz1 hz2 rfl (HK2.out _ 1) hk HBL.out (by simp [Act.eval]) ⟨w.heap.size + 1, 0, none⟩ (by simp [Act.eval]) x (by exact HN2.out 1) ?_; intro v' w4 q1 q2 q3 q4 q5 q6; obtain ⟨va, vc, hv⟩ := q2.len; subst hv; have s2 := q1.t2 k hk; have s3 := q1.kt.free (k * 18 + 17); have Q1 : Hid _ := q1; have Q2 : Hid (Buf2 w4 (.slice va ((th k).buf ++ [x]).length vc) ((th k).buf ++ [x])) := q2; have Q3 : Hid _ := q3; have Q4 : Hid _ := q4; have Q6 : Hid _ := q6; have s6 := q5 ⟨w.heap.size, 2, none⟩ hWo HBO.out; have s7 := q5 ⟨w.heap.size, 3, none⟩ hWo HBO.out; clear q1 q2 q3 q4 q5 q6))
  all_goals go_wp2
  all_goals go_end0
  all_goals
    have hend := HEND.out _ _ Q1.out Q2.out Q3.out (HBW.out _ _ _ Q4.out) (HFW.out _ _ _ Q6.out)
    rw [List.length_append] at hend
    exact ⟨rfl, hend⟩

end Go.Proofs.YtokfiflflcfidabDoor

namespace Go.Proofs.YtokfiflflcfidabDoor
open Go.RowKit

/-- the program's machine at M in state s; w0: the world that it was started in -/
def PAt (w0 w : World) (M : Nat) (model : Nat) (code : List (List RIns)) (s : St) : Prop :=
  ∃ L : PLoc, L.M = M ∧ PInv 136 139 147 w w0.heap.size L model code.length s.mem s.th ∧ Below w0.heap.size w0 w ∧ MOk code s.th
theorem PAt.kept {w0 w w' : World} {M : Nat} {model : Nat} {code : List (List RIns)} {s : St} (h : PAt w0 w M model code s) (hb : Below w.heap.size w w') : PAt w0 w' M model code s := by
  obtain ⟨L, h1, h2, h3, h4⟩ := h
  exact ⟨L, h1, h2.kept hb, h3.trans (hb.mono h3.size), h4⟩
theorem PAt.below {w0 w : World} {M : Nat} {model : Nat} {code : List (List RIns)} {s : St} (h : PAt w0 w M model code s) : Below w0.heap.size w0 w := by
  obtain ⟨L, h1, h2, h3, h4⟩ := h
  exact h3

theorem insT_stp (x : RIns) (model p : Nat) (mem : Nat → Nat) (th : Nat → Th) (k : Nat) (hp : p = (th k).pc + 1) : insT x model mem (updN th k { th k with pc := p }) k = stpT x model mem th k := by
  subst hp
  unfold insT stpT loadS
  rw [updN_same]
theorem insM_stp (x : RIns) (model : Nat) (mem : Nat → Nat) : insM x model mem = stpM x model mem := rfl
theorem updN_twice (th : Nat → Th) (k : Nat) (a b : Th) : updN (updN th k a) k b = updN th k b := by
  funext j; unfold updN; split <;> rfl

/-- an instruction of sound code -/
theorem pstep_any (n : Nat) (mem : Nat → Nat) (th : Nat → Th) (k base model : Nat) (hm : model = 0 ∨ model = 1) (L : PLoc) (w : World) (hI : PInv 136 139 147 w base L model n mem th)
    (hk : k < n) (x : RIns) (hc : x.cell < 16) (hr : x.reg < 16) (hrl : (th k).regs.length = 16) (hbl : (th k).buf.length ≤ 32) (hop : x.op = 1 ∨ x.op = 2 ∨ x.op = 3) :
    Calls Tryd.prog 91 #[.pointer (some ⟨L.M, 0, none⟩), .pointer (some ⟨L.gt, k * 18, none⟩), .agg #[.int .i64 x.op, .int .i64 x.reg, .int .i64 x.cell, .int .i64 x.val]] w fun r w' => r = .returned (.tuple #[]) ∧
      PMoved 136 139 147 w w' base L model n (insM x model mem) (updN th k (insT x model mem th k)) := by
  rcases hop with h | h | h
  · rcases hm with hm | hm
    · exact pstep_any0 n mem th k base model L w hI hk x hc hr hrl hbl (Or.inr (Or.inr ⟨h, hm⟩))
    · subst hm
      exact pstep_any1 n mem th k base L w hI hk x hbl h
  · exact pstep_any0 n mem th k base model L w hI hk x hc hr hrl hbl (Or.inr (Or.inl h))
  · exact pstep_any0 n mem th k base model L w hI hk x hc hr hrl hbl (Or.inl h)

set_option maxRecDepth 100000 in
set_option maxHeartbeats 1600000 in
theorem makeDrain_any (code : List (List RIns)) (s : St) (k model M : Nat) (cv : Value) (w0 w : World) (h : PAt w0 w M model code s) (hC : CodesRd w0 cv code) (hk : k < code.length) (hb : 0 < (s.th k).buf.length) :
    Calls Tryd.prog 75 #[.pointer (some ⟨M, 0, none⟩), cv, .agg #[.int .i64 k, .bool true]] w fun r w' => r = .returned (.tuple #[]) ∧ PAt w0 w' M model code (moveS code model s (k, true)) ∧ PFr 136 139 147 w w' := by
  have hb0 : Below w.heap.size w (w.alloc (.cells #[.int .i64 (k : Int), .bool true] 122)) := (Below.refl _ _).alloc (Nat.le_refl _) _
  have h1 := h.kept hb0
  obtain ⟨L, rfl, hI, hB, hO⟩ := h1
  have hex : ∃ x l, (s.th k).buf = x :: l := by
    cases he : (s.th k).buf with
    | nil => rw [he] at hb; simp at hb
    | cons x l => exact ⟨x, l, rfl⟩
  obtain ⟨x, l, hx⟩ := hex
  have hc : x.cell < 16 := by
    have := (hO k hk).2.2.2 0 hb
    rw [hx] at this
    simpa using this
  have HE : Hid (moveS code model s (k, true) = ⟨updN s.mem x.cell x.val, updN s.th k { s.th k with buf := l }⟩) := by show drainS k s = _; unfold drainS; rw [hx]
  have HOD : Hid _ := hO.drain hk hx
  have HDR : Hid _ := pdrain_any code.length s.mem s.th k w0.heap.size model L _ hI hk x l hx hc
  have HB : Hid _ := hB
  have c1 := hI.c1
  have hMl : L.M < w.heap.size := by
    obtain ⟨L2, e2, hI2, _⟩ := h
    rw [← e2]; exact hI2.kM.lt
  have hMn : ¬ (L.M = w.heap.size) := by omega
  obtain ⟨_, cb, co, cc, rfl, _, _⟩ := hC
  have hk0 : ¬ ((k : Int) < 0) := by omega
  have hk1 : ¬ ((code.length : Int) ≤ (k : Int)) := by omega
  have c1w : w.cell? ⟨L.M, 1, none⟩ = some (.slice (some ⟨L.gt, 0, none⟩) code.length L.tcap) := (hb0.cell (p := ⟨L.M, 1, none⟩) hMl).symm.trans c1
  clear hI hO hB hx h hb0 c1
  go_enter Tryd.func75, Tryd.ntmps75
  go_wp2_with fail
  refine Calls.mono HDR.out ?_
  rintro r w1 ⟨rfl, L', e1, hI', hB', hF'⟩
  have HF : Hid (PAt w0 w1 L.M model code (moveS code model s (k, true))) := ⟨L', e1, by rw [HE.out]; exact hI', HB.out.trans hB', by rw [HE.out]; exact HOD.out⟩
  have HFF : Hid (PFr 136 139 147 w w1) := (PFr.alloc w _).trans hF'
  clear hI' hB' e1 hF'
  go_wp2
  exact bodyPost_ret (results_none Tryd.results75 _ _ _) rfl ⟨rfl, HF.out, HFF.out⟩

set_option maxRecDepth 100000 in
set_option maxHeartbeats 1600000 in
theorem makeStep_any (code : List (List RIns)) (s : St) (k model M : Nat) (cv : Value) (w0 w : World) (h : PAt w0 w M model code s) (hC : CodesRd w0 cv code) (hS : SndC code) (hm : model = 0 ∨ model = 1) (hk : k < code.length) (hpc : (s.th k).pc < (code[k]?.getD []).length) :
    Calls Tryd.prog 75 #[.pointer (some ⟨M, 0, none⟩), cv, .agg #[.int .i64 k, .bool false]] w fun r w' => r = .returned (.tuple #[]) ∧ PAt w0 w' M model code (moveS code model s (k, false)) ∧ PFr 136 139 147 w w' := by
  have hCw := hC.kept h.below
  obtain ⟨L, rfl, hI, hB, hO⟩ := h
  obtain ⟨_, cb, co, cc, rfl, hcbl, hcc⟩ := hCw
  obtain ⟨vk, hvk, _, ib, io, ic, rfl, hibl, hins⟩ := hcc k hk
  have hX := hins (s.th k).pc hpc
  have hXe : ((code[k]?.getD [])[(s.th k).pc]?.getD rins0) = insOf code k (s.th k).pc := rfl
  rw [hXe] at hX
  have hsnd := (hS.2.2 k hk).2.2 (s.th k).pc hpc
  have hxr : (insOf code k (s.th k).pc).reg < 16 := hsnd.1
  have hxc : (insOf code k (s.th k).pc).cell < 16 := hsnd.2.1
  have hop := hsnd.2.2
  have hrl : (s.th k).regs.length = 16 := (hO k hk).2.1
  have hpl : (s.th k).pc < 32 := by have := (hS.2.2 k hk).2.1; omega
  have hbl : (s.th k).buf.length ≤ 32 := by have := (hO k hk).2.2.1; omega
  have HOS : Hid _ := hO.step hS hk hpc model s.mem
  have hsz := hI.size
  have HST : Hid (∀ (o1 o2 : Obj) (m : Nat) (w1 : World), w1 = ((((w.alloc o1).drewN m).setCell ⟨L.gt, k * 18, none⟩ (.int .i64 (((s.th k).pc : Nat) + 1 : Int))).alloc o2) → Calls Tryd.prog 91 #[.pointer (some ⟨L.M, 0, none⟩), .pointer (some ⟨L.gt, k * 18, none⟩), .agg #[.int .i64 (insOf code k (s.th k).pc).op, .int .i64 (insOf code k (s.th k).pc).reg, .int .i64 (insOf code k (s.th k).pc).cell, .int .i64 (insOf code k (s.th k).pc).val]] w1 fun r w' => r = .returned (.tuple #[]) ∧ PAt w0 w' L.M model code (moveS code model s (k, false)) ∧ PFr 136 139 147 w w') := by
    intro o1 o2 m w1 hw1
    have hP : PInv 136 139 147 w1 w0.heap.size L model code.length s.mem (updN s.th k { s.th k with pc := (s.th k).pc + 1 }) := by
      rw [hw1]
      exact (((hI.kept ((Below.refl _ _).alloc (Nat.le_refl _) o1)).drew m).setPc hk ((s.th k).pc + 1)).kept ((Below.refl _ _).alloc (Nat.le_refl _) o2)
    have hPB : Below w0.heap.size w w1 := by
      rw [hw1]
      exact ((below_drewN ((Below.refl _ w).alloc hsz o1) m).setCell (p := ⟨L.gt, k * 18, none⟩) hI.bt _).alloc (by simp; omega) o2
    have hPF : PFr 136 139 147 w w1 := by
      rw [hw1]
      exact (((PFr.alloc w o1).trans (PFr.drew _ m)).trans (PFr.set ((hI.kt.kept ((Below.refl _ _).alloc (Nat.le_refl _) o1))) (Or.inr (Or.inl rfl)) _ _)).trans (PFr.alloc _ o2)
    refine (pstep_any code.length s.mem _ k w0.heap.size model hm L w1 hP hk _ hxc hxr (by rw [updN_same]; exact hrl) (by rw [updN_same]; exact hbl) hop).mono ?_
    rintro r w' ⟨h1, L', h2, h3, h4, h5⟩
    refine ⟨h1, ⟨L', h2, ?_, hB.trans (hPB.trans h4), HOS.out⟩, hPF.trans h5⟩
    rw [insT_stp _ _ _ _ _ _ rfl, updN_twice] at h3
    exact h3
  have x0 := hX.op
  have x1 := hX.reg
  have x2 := hX.cell
  have x3 := hX.val
  have t0 := hI.t0 k hk
  have hft := hI.kt.free (k * 18)
  have c1 := hI.c1
  have hMl := hI.kM.lt
  have htl := hI.kt.lt
  have hMn : ¬ (L.M = w.heap.size) := by omega
  have htn : ¬ (L.gt = w.heap.size) := by omega
  have hcn : ¬ (cb = w.heap.size) := by omega
  have hin : ¬ (ib = w.heap.size) := by omega
  have hd1 : ¬ (L.gt = L.M) := hI.kt.ne hI.kM (Ne.symm hI.types.1)
  have hk0 : ¬ ((k : Int) < 0) := by omega
  have hk1 : ¬ ((code.length : Int) ≤ (k : Int)) := by omega
  have hl16 := hS.2.1
  clear hX hXe hcc hins hI hO hB hC hS
  generalize insOf code k (s.th k).pc = x at *
  generalize (s.th k).pc = pc at *
  generalize (code[k]?.getD []).length = cl at *
  have hp0 : ¬ ((pc : Int) < 0) := by omega
  have hp1 : ¬ ((cl : Int) ≤ (pc : Int)) := by omega
  have hp0d : decide ((pc : Int) < 0) = false := decide_eq_false hp0
  have hp1d : decide ((cl : Int) ≤ (pc : Int)) = false := decide_eq_false hp1
  go_enter Tryd.func75, Tryd.ntmps75
  go_wp2
  go_quiet (fail)
  go_wp2
  go_region
  go_wp2_with fail
  refine Calls.mono (HST.out _ _ _ _ rfl) ?_
  rintro r w1 ⟨rfl, hP⟩
  have HP : Hid _ := hP
  clear hP
  go_wp2
  go_end0
  exact ⟨rfl, HP.out⟩

end Go.Proofs.YtokfiflflcfidabDoor

namespace Go.Proofs.YtokfiflflcfidabDoor
open Go.RowKit

def runA : Array Value := #[.int .i64 0, .int .i64 0, .int .i64 0, .int .i64 0, .int .i64 0, .int .i64 0, .int .i64 0, .int .i64 0, .int .i64 0, .int .i64 0, .int .i64 0, .int .i64 0, .int .i64 0, .int .i64 0, .int .i64 0, .int .i64 0, .int .i64 0, .slice none 0 0]
def runC : List Value := runA.toList
theorem runC_length : runC.length = 18 := rfl
theorem runC_one : ∀ u ∈ runC, u.oneCell' = true := by
  intro u hu
  simp [runC, runA] at hu
  rcases hu with rfl | rfl <;> rfl
def rcs (k : Nat) : List Value := (List.range k).flatMap fun _ => runC
theorem rcs_succ (k : Nat) : rcs (k + 1) = rcs k ++ runC := by simp [rcs, List.range_succ]
theorem rcs_length (k : Nat) : (rcs k).length = k * 18 := by
  induction k with
  | zero => rfl
  | succ k ih => rw [rcs_succ, List.length_append, ih, runC_length]; omega
theorem rcs_at {k j i : Nat} (hj : j < k) (hi : i < 18) : (rcs k)[j * 18 + i]? = runC[i]? := by
  induction k with
  | zero => omega
  | succ k ih =>
    rw [rcs_succ]
    by_cases hjk : j < k
    · rw [List.getElem?_append_left (by rw [rcs_length]; omega)]; exact ih hjk
    · have : j = k := by omega
      subst this
      rw [List.getElem?_append_right (by rw [rcs_length]; omega), rcs_length]
      congr 1
      omega
theorem run_new (w : World) (T : Nat) (j : Nat) (u : Value) (h : runC[j]? = some u) : (w.alloc (.cells runA T)).cell? ((⟨w.heap.size, 0, none⟩ : Addr).add j) = some u := by
  rw [addr_addP, cell_of_row _ _ (0 + j) _ _ _ (heap_alloc_new w _), Nat.zero_add]
  simpa [runC] using h
theorem runC_zero {i : Nat} (hi : i < 17) : runC[i]? = some (.int .i64 0) := by
  match i, hi with
  | 0, _ => rfl
  | 1, _ => rfl
  | 2, _ => rfl
  | 3, _ => rfl
  | 4, _ => rfl
  | 5, _ => rfl
  | 6, _ => rfl
  | 7, _ => rfl
  | 8, _ => rfl
  | 9, _ => rfl
  | 10, _ => rfl
  | 11, _ => rfl
  | 12, _ => rfl
  | 13, _ => rfl
  | 14, _ => rfl
  | 15, _ => rfl
  | 16, _ => rfl
  | n + 17, h => omega

/-- a machine under way: k threads laid -/
structure NmInv (w wr : World) (model k : Nat) (v : Value) : Prop where
  below : Below w.heap.size w wr
  big : w.heap.size + 1 ≤ wr.heap.size
  kM : Blk wr w.heap.size 136
  c0 : wr.cell? ⟨w.heap.size, 0, none⟩ = some (.int .i64 (model : Int))
  c1 : wr.cell? ⟨w.heap.size, 1, none⟩ = some v
  cm : ∀ c, c < 16 → wr.cell? ⟨w.heap.size, 2 + c, none⟩ = some (.int .i64 0)
  own : wr.ownsRow (w.heap.size + 1) 139 18 v k (rcs k)

theorem NmInv.off {w wr : World} {model k : Nat} {v : Value} (h : NmInv w wr model k v) : v.ownBlock ≠ some w.heap.size := by
  intro e
  have := (World.ownsRow.lt h.own _ e).1
  omega
theorem NmInv.grow {w wr w' : World} {model k : Nat} {v v' : Value} (h : NmInv w wr model k v) (hg : Grew wr w' v v') (hown : w'.ownsRow (w.heap.size + 1) 139 18 v' (k + 1) (rcs k ++ runC)) :
    w'.cell? ⟨w.heap.size, 1, none⟩ = some v ∧ w'.frozen? ⟨w.heap.size, 1, none⟩ = false ∧ NmInv w (w'.setCell ⟨w.heap.size, 1, none⟩ v') model (k + 1) v' := by
  have hbig := h.big
  have hblk := hg.block (k := w.heap.size) (by omega) h.off
  have hc : ∀ o, w'.cell? ⟨w.heap.size, o, none⟩ = wr.cell? ⟨w.heap.size, o, none⟩ := fun o => World.cell?_of_block hblk
  have hkM : Blk w' w.heap.size 136 := by
    obtain ⟨cur, hcur⟩ := h.kM
    exact ⟨cur, hblk.trans hcur⟩
  refine ⟨(hc 1).trans h.c1, hkM.free 1, ?_⟩
  exact {
    below := (h.below.trans (Below.mono ((hg.below (Below.refl (w.heap.size + 1) wr) hbig h.own)) (by omega))).setCell (p := ⟨w.heap.size, 1, none⟩) (Nat.le_refl _) _
    big := by have := hg.size; simp; omega
    kM := hkM.set _ _ _
    c0 := (set_ne _ (Or.inr (by omega))).trans ((hc 0).trans h.c0)
    c1 := set_eq _ ((hc 1).trans h.c1)
    cm := fun c hcc => (set_ne _ (Or.inr (by omega))).trans ((hc _).trans (h.cm c hcc))
    own := by
      rw [rcs_succ]
      refine ⟨hown.1, ?_⟩
      rcases hown.2 with ⟨_, h0⟩ | ⟨g, cap, cur, e, g1, g2, g3⟩
      · omega
      · refine Or.inr ⟨g, cap, cur, e, g1, ?_, g3⟩
        rw [heap_setCell_other w' ⟨w.heap.size, 1, none⟩ g v' (by dsimp only; omega)]
        exact g2 }
theorem NmInv.mach {w wr : World} {model : Nat} {v : Value} {code : List (List RIns)} (h : NmInv w wr model code.length v) (h0 : 0 < code.length) : PAt w wr w.heap.size model code st0 := by
  have hown := h.own
  rcases hown.2 with ⟨_, h1⟩ | ⟨g, cap, cur, rfl, g1, g2, g3⟩
  · omega
  have hc : ∀ j i u, j < code.length → i < 18 → runC[i]? = some u → wr.cell? ⟨g, j * 18 + i, none⟩ = some u := by
    intro j i u hj hi hu
    have := hown.cells (g := g) rfl (j * 18 + i) u ((rcs_at hj hi).trans hu)
    rw [addr_addP, Nat.zero_add] at this
    exact this
  refine ⟨⟨w.heap.size, g, cap, fun _ => .slice none 0 0⟩, rfl, ?_, h.below, fun k hk => ⟨Nat.zero_le _, by simp [st0], Nat.zero_le _, fun i hi => by simp [st0] at hi⟩⟩
  exact {
    types := by decide
    bM := Nat.le_refl _
    bt := by dsimp only; omega
    bb := fun k b hk e => by simp [Value.ownBlock] at e
    kM := h.kM
    kt := ⟨_, g2⟩
    kb := fun k b hk e => by simp [Value.ownBlock] at e
    c0 := h.c0
    c1 := h.c1
    cm := h.cm
    t0 := fun k hk => hc k 0 _ hk (by omega) rfl
    tr := fun k r hk hr => by
      have e : ((st0.th k).regs[r]?.getD 0 : Nat) = 0 := by
        show ((List.replicate 16 0)[r]?.getD 0) = 0
        rw [List.getElem?_replicate, if_pos hr]
        rfl
      rw [e, Nat.add_assoc]
      exact hc k (1 + r) _ hk (by omega) (runC_zero (by omega))
    t2 := fun k hk => hc k 17 _ hk (by omega) rfl
    cb := fun k hk => Or.inl ⟨rfl, rfl⟩
    dbb := fun k j b hk hj hkj e => by simp [Value.ownBlock] at e }

theorem Tryd.infoRunner : (Tryd.prog.info? 139).map (fun i => (i.zero.map Value.cells, i.size, i.bytes)) = some (some runA, 18, 160) := by kernel_rfl

set_option maxRecDepth 100000 in
set_option maxHeartbeats 800000 in
theorem newMachine_any (code : List (List RIns)) (model : Nat) (cv : Value) (w : World) (hC : CodesRd w cv code) (hS : SndC code) :
    Calls Tryd.prog 72 #[cv, .int .i64 model] w fun r w' => ∃ M, r = .returned (.pointer (some ⟨M, 0, none⟩)) ∧ PAt w w' M model code st0 := by
  obtain ⟨_, cb, co, cc, rfl, hcbl, hcc⟩ := hC
  have hl16 := hS.2.1
  have h1 := hS.1
  have hinfo : ∃ z, (Tryd.prog.info? 139).map (fun i => (i.zero, i.size, i.bytes)) = some (some z, 18, 160) ∧ z.cells.size = 18 := by
    have := Tryd.infoRunner
    cases hi : Tryd.prog.info? 139 with
    | none => rw [hi] at this; cases this
    | some i =>
      rw [hi] at this
      simp only [Option.map_some, Option.some.injEq, Prod.mk.injEq] at this
      obtain ⟨a, b, c⟩ := this
      cases hz : i.zero with
      | none => rw [hz] at a; cases a
      | some z =>
        rw [hz] at a
        simp only [Option.map_some, Option.some.injEq] at a
        exact ⟨z, by simp [hz, b, c], by rw [a]; rfl⟩
  obtain ⟨z, hinfo, hzs⟩ := hinfo
  have HINF : Hid _ := hinfo
  have HZS : Hid _ := hzs
  clear hcc hinfo hzs
  go_enter Tryd.func72, Tryd.ntmps72
  go_wp2
  go_loopw [11] (fun i wr => ∃ (k : Nat) (v : Value), k ≤ code.length ∧ i = .int .i64 k ∧ NmInv w wr model k v) (fun i _ => code.length - (intOf i).toNat)
  case atStart =>
    refine ⟨0, .slice none 0 0, Nat.zero_le _, rfl, ?_⟩
    exact {
      below := (Below.refl _ _).alloc (Nat.le_refl _) _
      big := by simp
      kM := ⟨_, heap_alloc_new w _⟩
      c0 := by simp
      c1 := by simp
      cm := fun c hc => by
        rw [cell_of_row _ _ (2 + c) _ _ _ (heap_alloc_new w _)]
        match c, hc with
        | 0, _ => rfl
        | 1, _ => rfl
        | 2, _ => rfl
        | 3, _ => rfl
        | 4, _ => rfl
        | 5, _ => rfl
        | 6, _ => rfl
        | 7, _ => rfl
        | 8, _ => rfl
        | 9, _ => rfl
        | 10, _ => rfl
        | 11, _ => rfl
        | 12, _ => rfl
        | 13, _ => rfl
        | 14, _ => rfl
        | 15, _ => rfl
        | n + 16, h => omega
      own := World.ownsRow_nil _ _ _ _ }
  case round =>
    obtain ⟨k, v, hk, rfl, hinv⟩ := hrel
    have c1 := hinv.c1
    have hbig := hinv.big
    have hMn : ¬ (w.heap.size = wr.heap.size) := by omega
    have HINV : Hid (NmInv w wr model k v) := hinv
    clear hinv
    by_cases hlt : k < code.length
    · go_wp2_with (at_builtin; go_must (refine wpList_pushK rfl _ _ 133 rfl (w.heap.size + 1) 139 z 18 160 Tryd.underlying133 HINF.out HZS.out (by decide) _ k (rcs k) runA runC (run_new wr _) rfl runC_one (by rfl) (by rfl) HINV.out.own (by omega) (by unfold maxLen; omega) hbig ?_); intro v' w7 hown7 hg7; obtain ⟨s1, s2, s3⟩ := HINV.out.grow hg7 hown7; obtain ⟨va, vc, hv'⟩ : ∃ a c, v' = .slice a (k + 1) c := (by rcases hown7.2 with ⟨_, h0⟩ | ⟨g, cap, cur, e, _⟩; exact absurd h0 (by omega); exact ⟨_, _, e⟩); subst hv'; have S3 : Hid _ := s3; clear s3 hown7 hg7)
      go_roundw
      case rel => exact ⟨k + 1, _, by omega, by go_num, S3.out⟩
      case measure => simp [intOf]; omega
    · have : k = code.length := by omega
      subst this
      go_wp2
      go_ret
      exact ⟨_, rfl, HINV.out.mach h1⟩

end Go.Proofs.YtokfiflflcfidabDoor
