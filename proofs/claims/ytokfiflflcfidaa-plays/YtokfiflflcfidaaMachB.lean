import Derived.Test.YtokfiflflcfidaaRows
import Derived.Test.YtokfiflflcfidaaPlain
import Derived.Test.YtokfiflflcfidaaMem
import Derived.Test.YtokfiflflcfidaaMachM
import Derived.WalkKit
import Derived.WalkSpells
import Derived.WalkLawsBesides
import Derived.Deep.RegionLawGrows
import Derived.RegionTactic
import Derived.BigRegion
namespace Go.Proofs.Ytokfiflflcfidaa
open Go.RowKit

def insCells (x : RIns) : List Value := [.int .i64 (x.op : Int), .int .i64 (x.reg : Int), .int .i64 (x.cell : Int), .int .i64 (x.val : Int)]
theorem insCells_one (x : RIns) : ∀ u ∈ insCells x, u.oneCell' = true := by
  intro u hu
  simp [insCells] at hu
  rcases hu with rfl | rfl | rfl | rfl <;> rfl
theorem flatIns_at (l : List RIns) (i j : Nat) (hi : i < l.length) (hj : j < 4) : (l.flatMap insCells)[i * 4 + j]? = (insCells (l[i]?.getD rins0))[j]? := by
  induction l generalizing i with
  | nil => simp at hi
  | cons e l ih =>
    rw [List.flatMap_cons]
    have h6 : (insCells e).length = 4 := rfl
    cases i with
    | zero => rw [List.getElem?_append_left (by omega)]; simp
    | succ i =>
      rw [List.getElem?_append_right (by omega), h6, show (i + 1) * 4 + j - 4 = i * 4 + j from by omega, ih i (by simpa using hi)]
      simp
theorem flatIns_length (l : List RIns) : (l.flatMap insCells).length = l.length * 4 := by
  induction l with
  | nil => rfl
  | cons e l ih => rw [List.flatMap_cons, List.length_append, ih]; simp [insCells]; omega
theorem InsAt.cells {w : World} {b p : Nat} {x : RIns} (h : InsAt w b p x) (j : Nat) (u : Value) (hu : (insCells x)[j]? = some u) : w.cell? ⟨b, p + j, none⟩ = some u := by
  match j, hu with
  | 0, hu => simp [insCells] at hu; subst hu; exact h.op
  | 1, hu => simp [insCells] at hu; subst hu; exact h.reg
  | 2, hu => simp [insCells] at hu; subst hu; exact h.cell
  | 3, hu => simp [insCells] at hu; subst hu; exact h.val
theorem InsAt.of_cells {w : World} {b p : Nat} {x : RIns} (h : ∀ j u, (insCells x)[j]? = some u → w.cell? ⟨b, p + j, none⟩ = some u) : InsAt w b p x :=
  ⟨h 0 _ rfl, h 1 _ rfl, h 2 _ rfl, h 3 _ rfl⟩
theorem addr_add (b off j : Nat) : (⟨b, off, none⟩ : Addr).add j = ⟨b, off + j, none⟩ := by unfold Addr.add; split <;> simp_all

theorem BufAt.spare {w : World} {b off len cap o : Nat} {l : List RIns} (h : BufAt w (.slice (some ⟨b, off, none⟩) len cap) l) (ho : off + len * 4 ≤ o) (u : Value) : BufAt (w.setCell ⟨b, o, none⟩ u) (.slice (some ⟨b, off, none⟩) len cap) l := by
  rcases h with ⟨h, _⟩ | ⟨b', off', cap', e, h1, h2, h3⟩
  · simp at h
  · simp only [Value.slice.injEq, Option.some.injEq, Addr.mk.injEq, and_true] at e
    obtain ⟨⟨rfl, rfl⟩, rfl, rfl⟩ := e
    refine Or.inr ⟨b, off, cap, rfl, h1, fun i hi => ?_, fun j hj => ?_⟩
    · have := h2 i hi
      exact ⟨(set_ne u (Or.inr (by omega))).trans this.op, (set_ne u (Or.inr (by omega))).trans this.reg, (set_ne u (Or.inr (by omega))).trans this.cell, (set_ne u (Or.inr (by omega))).trans this.val⟩
    · by_cases hjo : o = off + j
      · subst hjo
        have := h3 j hj
        obtain ⟨y, hy⟩ := Option.isSome_iff_exists.1 this
        rw [set_eq u hy]; rfl
      · rw [set_ne u (Or.inr hjo)]; exact h3 j hj

theorem step_append_buf {P : Program} {ops : Array Oper} {o : Oper} {a : Act} {w : World} {K : Act → World → Prop} {Q : Exit → Act → World → Prop} {E : Prop}
    (hg : o.guard = none) (s x : Operand) (t : TypeId) (hop : o.op = Op.call { callee := Callee.builtin Builtin.append, args := #[s, x], argTypes := #[t, t] })
    (e : TypeId) (i : TypeInfo) (z : Value) (h1 : P.underlying t = some (.slice e)) (h2 : P.info? e = some i) (h3 : i.zero = some z) (h4 : i.size = 4) (h5 : i.bytes = 32) (h6 : z.cells.size = 4)
    {TM TT TI base : Nat} {L : MLoc} {cv : Value} {model n : Nat} {mem : Nat → Nat} {th : Nat → Th} (hI : MInv TM TT TI e w base L cv model n mem th) {k : Nat} (hk : k < n) (hlen : (th k).buf.length ≤ 32)
    (hs : a.eval s = L.bv k) (ad : Addr) (hx : a.eval x = .slice (some ad) 1 1) (X : RIns) (hc : ∀ j u, (insCells X)[j]? = some u → w.cell? (ad.add j) = some u)
    (hK : ∀ v' w', MInv TM TT TI e w' base L cv model n mem th → BufAt w' v' ((th k).buf ++ [X]) → (∀ b, v'.ownBlock = some b → Blk w' b e ∧ base ≤ b ∧ ∀ j, j < n → j ≠ k → (L.bv j).ownBlock ≠ some b) → Below base w w' → (∀ p : Addr, p.block < w.heap.size → (L.bv k).ownBlock ≠ some p.block → w'.cell? p = w.cell? p) → K (a.put o.dst v') w') :
    if Region.wanted o (yielded ops a.tmps) = true then Oper.wp P o a w K Q else E := by
  have hsz : base ≤ w.heap.size := Nat.le_of_lt (Nat.lt_of_le_of_lt hI.bM hI.kM.lt)
  -- a new block
  have grows : ∀ (ao : Option Addr) (cap : Nat), L.bv k = .slice ao (th k).buf.length cap → (ao = none → (th k).buf.length = 0 ∧ cap = 0) → (∀ b, ao = some b → ∀ j u, ((th k).buf.flatMap insCells)[j]? = some u → w.cell? (b.add j) = some u) → cap < (th k).buf.length + 1 →
      if Region.wanted o (yielded ops a.tmps) = true then Oper.wp P o a w K Q else E := by
    intro ao cap e1 e2 e3 e4
    refine step_append_grows hg s x t hop e i z 4 32 h1 h2 h3 h4 h5 h6 (by decide) ao (th k).buf.length cap ((th k).buf.flatMap insCells) (hs.trans e1) e2 (flatIns_length _) e3 ad 1 1 (insCells X) hx rfl hc (insCells_one X) e4 (by unfold maxLen; omega) (by omega) ?_
    intro v' w' hown hgr
    have hb : Below w.heap.size w w' := ⟨hgr.os, hgr.tape, hgr.output, hgr.size, fun j hj => hgr.block j hj (by simp)⟩
    rcases hown.2 with ⟨_, h0⟩ | ⟨g, cp, cur, rfl, hg1, hg2, hg3, _, hg4, hg5⟩
    · omega
    · refine hK _ w' (hI.kept hb) ?_ ?_ (hb.mono hsz) (fun p hp _ => hb.cell hp)
      · refine Or.inr ⟨g, 0, cp, by simp, by simpa using hg3, fun q hq => ?_, fun j hj => ?_⟩
        · refine InsAt.of_cells fun j u hu => ?_
          have hj : j < 4 := by
            have := (List.getElem?_eq_some_iff.1 hu).1
            simpa [insCells] using this
          have := hown.cells (g := g) rfl (q * 4 + j) u (by
            have e5 : (th k).buf.flatMap insCells ++ insCells X = ((th k).buf ++ [X]).flatMap insCells := by simp
            rw [e5, flatIns_at _ q j hq hj]; exact hu)
          rw [addr_add] at this
          rw [show 0 + q * 4 + j = 0 + (q * 4 + j) from by omega]
          exact this
        · rw [cell_of_row w' g (0 + j) cur e (0, 0) hg2]
          have hj2 : j < cur.size := by omega
          simp [hj2]
      · intro b hb'
        simp [Value.ownBlock] at hb'
        subst hb'
        refine ⟨⟨cur, hg2⟩, Nat.le_trans hsz hg1, fun j hj _ hjb => ?_⟩
        have := (hI.kb j g hj hjb).lt
        omega
  rcases hI.cb k hk with ⟨e1, e2⟩ | ⟨b, off, cap, e1, e2, e3, e4⟩
  · refine grows none 0 (by rw [e1, e2]; rfl) (fun _ => ⟨by rw [e2]; rfl, rfl⟩) (fun b hb => by cases hb) (by omega)
  · have holds : ∀ j u, ((th k).buf.flatMap insCells)[j]? = some u → w.cell? ⟨b, off + j, none⟩ = some u := by
      intro j u hu
      have hj := (List.getElem?_eq_some_iff.1 hu).1
      rw [flatIns_length] at hj
      have hjd : j / 4 * 4 + j % 4 = j := by omega
      have := flatIns_at (th k).buf (j / 4) (j % 4) (by omega) (by omega)
      rw [hjd, hu] at this
      have := (e3 (j / 4) (by omega)).cells (j % 4) u this.symm
      rw [show off + j / 4 * 4 + j % 4 = off + j from by omega] at this
      exact this
    by_cases hroom : (th k).buf.length + 1 ≤ cap
    · have hbk : (L.bv k).ownBlock = some b := by rw [e1]; rfl
      have hB := hI.kb k b hk hbk
      refine step_append_room hg s x t hop e i 4 h1 h2 h4 b off (th k).buf.length cap (hs.trans e1) ad 1 1 (insCells X) hx rfl hc (insCells_one X) hroom (fun j hj => ⟨?_, hB.free _⟩) ?_
      · rw [Nat.add_assoc]
        exact e4 _ (by simp [insCells] at hj; omega)
      · simp only [insCells, World.setCells]
        have spare : ∀ (w1 : World) (o1 : Nat) (u : Value), MInv TM TT TI e w1 base L cv model n mem th → off + (th k).buf.length * 4 ≤ o1 → MInv TM TT TI e (w1.setCell ⟨b, o1, none⟩ u) base L cv model n mem th := by
          intro w1 o1 u h ho
          refine h.setSpare hk hbk u ?_
          have := h.cb k hk
          rw [e1] at this ⊢
          exact this.spare ho u
        have m1 := spare _ (off + (th k).buf.length * 4) (.int .i64 (X.op : Int)) hI (by omega)
        have m2 := spare _ (off + (th k).buf.length * 4 + 1) (.int .i64 (X.reg : Int)) m1 (by omega)
        have m3 := spare _ (off + (th k).buf.length * 4 + 1 + 1) (.int .i64 (X.cell : Int)) m2 (by omega)
        have m4 := spare _ (off + (th k).buf.length * 4 + 1 + 1 + 1) (.int .i64 (X.val : Int)) m3 (by omega)
        have hbb := hI.bb k b hk hbk
        have some4 : ∀ j, j < 4 → ∃ y, w.cell? ⟨b, off + (th k).buf.length * 4 + j, none⟩ = some y := by
          intro j hj
          have := e4 ((th k).buf.length * 4 + j) (by omega)
          rw [← Nat.add_assoc] at this
          exact Option.isSome_iff_exists.1 this
        obtain ⟨y0, hy0⟩ := some4 0 (by omega)
        obtain ⟨y1, hy1⟩ := some4 1 (by omega)
        obtain ⟨y2, hy2⟩ := some4 2 (by omega)
        obtain ⟨y3, hy3⟩ := some4 3 (by omega)
        have hend := m4.cb k hk
        rw [e1] at hend
        refine hK _ _ m4 ?_ ?_ ?_ ?_
        · rcases hend with ⟨h, _⟩ | ⟨b', off', cap', e, f1, f2, f3⟩
          · simp at h
          · simp only [Value.slice.injEq, Option.some.injEq, Addr.mk.injEq, and_true] at e
            obtain ⟨⟨rfl, rfl⟩, _, rfl⟩ := e
            refine Or.inr ⟨b, off, cap, by simp, by simpa using hroom, fun q hq => ?_, f3⟩
            by_cases hql : q < (th k).buf.length
            · rw [List.getElem?_append_left hql]; exact f2 q hql
            · have : q = (th k).buf.length := by simp at hq; omega
              subst this
              rw [List.getElem?_append_right (Nat.le_refl _), Nat.sub_self]
              refine ⟨?_, ?_, ?_, ?_⟩
              · rw [set_ne _ (Or.inr (by omega)), set_ne _ (Or.inr (by omega)), set_ne _ (Or.inr (by omega))]
                exact set_eq _ hy0
              · rw [set_ne _ (Or.inr (by omega)), set_ne _ (Or.inr (by omega))]
                exact set_eq (x := y1) _ (by rw [set_ne _ (Or.inr (by omega))]; exact hy1)
              · rw [set_ne _ (Or.inr (by omega))]
                exact set_eq (x := y2) _ (by rw [set_ne _ (Or.inr (by omega)), set_ne _ (Or.inr (by omega))]; exact hy2)
              · exact set_eq (x := y3) _ (by rw [set_ne _ (Or.inr (by omega)), set_ne _ (Or.inr (by omega)), set_ne _ (Or.inr (by omega))]; exact hy3)
        · intro b' hb'
          simp [Value.ownBlock] at hb'
          subst hb'
          exact ⟨(((hB.set _ _ _).set _ _ _).set _ _ _).set _ _ _, hbb, fun j hj hjk => hI.dbb k j b hk hj (Ne.symm hjk) hbk⟩
        · exact ((((Below.refl base w).setCell (p := ⟨b, _, none⟩) hbb _).setCell (p := ⟨b, _, none⟩) hbb _).setCell (p := ⟨b, _, none⟩) hbb _).setCell (p := ⟨b, _, none⟩) hbb _
        · intro p hp hne
          rw [hbk] at hne
          have hpb : p.block ≠ b := fun e => hne (by rw [e])
          have one : ∀ (w1 : World) (o1 : Nat) (u : Value), (w1.setCell ⟨b, o1, none⟩ u).cell? p = w1.cell? p := fun w1 o1 u => World.cell?_of_block (Below.heap_setCell _ _ _ _ hpb)
          rw [one, one, one, one]
    · refine grows (some ⟨b, off, none⟩) cap e1 (fun h => by cases h) (fun b' hb' j u hu => ?_) (by omega)
      simp at hb'
      subst hb'
      rw [addr_add]
      exact holds j u hu

end Go.Proofs.Ytokfiflflcfidaa
