import Derived.Test.YtokfiflflcfidabRows
import Derived.Test.YtokfiflflcfidabMem
import Derived.Test.YtokfiflflcfidabMem2
import Derived.Test.YtokfiflflcfidabMemQ
import Derived.Test.YtokfiflflcfidabPMM
import Derived.WalkKit
import Derived.WalkSpells
import Derived.WalkLawsBesides
import Derived.RegionTactic
import Derived.BigRegion
import Derived.Deep.QuietTactic
import Derived.BigQuiet
namespace Go.Proofs.Ytokfiflflcfidab
open Go.RowKit

/-- a move: the thread; does it drain? -/
def mvCells (m : Nat × Bool) : List Value := [.int .i64 (m.1 : Int), .bool m.2]
theorem mvCells_one (m : Nat × Bool) : ∀ u ∈ mvCells m, u.oneCell' = true := by
  intro u hu
  simp [mvCells] at hu
  rcases hu with rfl | rfl <;> rfl
theorem flatMv_at (l : List (Nat × Bool)) (i j : Nat) (hi : i < l.length) (hj : j < 2) : (l.flatMap mvCells)[i * 2 + j]? = (mvCells (l[i]?.getD (0, false)))[j]? := by
  induction l generalizing i with
  | nil => simp at hi
  | cons e l ih =>
    rw [List.flatMap_cons]
    have h6 : (mvCells e).length = 2 := rfl
    cases i with
    | zero => rw [List.getElem?_append_left (by omega)]; simp
    | succ i =>
      rw [List.getElem?_append_right (by omega), h6, show (i + 1) * 2 + j - 2 = i * 2 + j from by omega, ih i (by simpa using hi)]
      simp
/-- v owns the moves l -/
def OwnMv (w : World) (base T : Nat) (v : Value) (l : List (Nat × Bool)) : Prop := w.ownsRow base T 2 v l.length (l.flatMap mvCells)
theorem OwnMv.nil (w : World) (base T : Nat) : OwnMv w base T (.slice none 0 0) [] := World.ownsRow_nil w base T 2
theorem OwnMv.kept {w w' : World} {base T : Nat} {v : Value} {l : List (Nat × Bool)} (h : OwnMv w base T v l) (hb : Below w.heap.size w w') : OwnMv w' base T v l := ownsRow_kept h hb
/-- the moves of a list -/
def MvRd (w : World) (v : Value) (l : List (Nat × Bool)) : Prop :=
  ∃ a cap, v = .slice a l.length cap ∧ ∀ i, i < l.length → ∃ b off, a = some ⟨b, off, none⟩ ∧ b < w.heap.size ∧ w.cell? ⟨b, off + i * 2, none⟩ = some (.int .i64 (((l[i]?.getD (0, false)).1 : Nat) : Int)) ∧ w.cell? ⟨b, off + i * 2 + 1, none⟩ = some (.bool (l[i]?.getD (0, false)).2)
theorem MvRd.kept {w w' : World} {v : Value} {l : List (Nat × Bool)} (h : MvRd w v l) (hb : Below w.heap.size w w') : MvRd w' v l := by
  obtain ⟨a, cap, rfl, h1⟩ := h
  refine ⟨a, cap, rfl, fun i hi => ?_⟩
  obtain ⟨b, off, e, h2, h3, h4⟩ := h1 i hi
  exact ⟨b, off, e, Nat.lt_of_lt_of_le h2 hb.size, (hb.cell (p := ⟨b, _, none⟩) h2).trans h3, (hb.cell (p := ⟨b, _, none⟩) h2).trans h4⟩
theorem OwnMv.rd {w : World} {base T : Nat} {v : Value} {l : List (Nat × Bool)} (h : OwnMv w base T v l) : MvRd w v l := by
  have h' := h
  rcases h.2 with ⟨rfl, hn⟩ | ⟨g, cap, cur, rfl, hbg, hgg, _⟩
  · exact ⟨none, 0, by rw [hn], fun i hi => by omega⟩
  · refine ⟨_, cap, rfl, fun i hi => ⟨g, 0, rfl, (Array.getElem?_eq_some_iff.1 hgg).1, ?_, ?_⟩⟩
    · have := h'.cells (g := g) rfl (i * 2 + 0) (.int .i64 (((l[i]?.getD (0, false)).1 : Nat) : Int)) (by rw [flatMv_at l i 0 hi (by omega)]; rfl)
      rw [addr_addP] at this
      exact this
    · have := h'.cells (g := g) rfl (i * 2 + 1) (.bool (l[i]?.getD (0, false)).2) (by rw [flatMv_at l i 1 hi (by omega)]; rfl)
      rw [addr_addP, ← Nat.add_assoc] at this
      exact this
theorem mv_new (w : World) (T : Nat) (m : Nat × Bool) (j : Nat) (u : Value) (h : (mvCells m)[j]? = some u) : (w.alloc (.cells #[.int .i64 (m.1 : Int), .bool m.2] T)).cell? ((⟨w.heap.size, 0, none⟩ : Addr).add j) = some u := by
  rw [addr_addP]
  match j, h with
  | 0, h => simp [mvCells] at h; subst h; simp
  | 1, h => simp [mvCells] at h; subst h; simp
/-- 'list = append(list, move{..})' -/
theorem wpList_pushMv {P : Program} {wr : World} {ops : Array Oper} {rest : List Oper} {o : Oper} {a : Act} {Q : Exit → Act → World → Prop} (hgd : o.guard = none) (s x : Operand) (t : TypeId)
    (ho : o.op = .call { callee := .builtin .append, args := #[s, x], argTypes := #[t, t] })
    (base : Nat) (T : TypeId) (ht : P.underlying t = some (.slice T)) (hinfo : (P.info? T).map (fun i => (i.zero, i.size, i.bytes)) = some (some (.agg #[.int .i64 0, .bool false]), 2, 16))
    (v : Value) (l : List (Nat × Bool)) (m : Nat × Bool) (hs : a.eval s = v) (hx : a.eval x = .slice (some ⟨wr.heap.size, 0, none⟩) 1 1)
    (hown : OwnMv wr base T v l) (hlen : l.length ≤ 1000) (hbase : base ≤ wr.heap.size)
    (h : ∀ v' w', OwnMv w' base T v' (l ++ [m]) → Grew wr w' v v' → wpList P ops Q rest (a.put o.dst v') w') :
    wpList P ops Q (o :: rest) a (wr.alloc (.cells #[.int .i64 (m.1 : Int), .bool m.2] T)) := by
  refine wpList_pushK hgd s x t ho base T (.agg #[.int .i64 0, .bool false]) 2 16 ht hinfo rfl (by decide) v l.length (l.flatMap mvCells) #[.int .i64 (m.1 : Int), .bool m.2] (mvCells m) (mv_new wr T m) rfl (mvCells_one m) hs hx hown (by omega) (by unfold maxLen; omega) hbase ?_
  intro v' w' h1 h2
  refine h v' w' ?_ h2
  unfold OwnMv
  rw [List.length_append, List.flatMap_append]
  simpa using h1

theorem Try.infoMove : (Try.prog.info? 75).map (fun i => (i.zero, i.size, i.bytes)) = some (some (.agg #[.int .i64 0, .bool false]), 2, 16) := by kernel_rfl

set_option maxHeartbeats 400000 in
theorem isCell_m (c : Nat) (hc : c < 16) (w : World) : Calls Try.prog 46 #[.int .i64 c] w fun r w' => r = .returned (.bool true) ∧ w' = w := by
  have h0 : (0 : Int) ≤ (c : Int) := by omega
  have h1 : (c : Int) < 16 := by omega
  go_enter Try.func46, Try.ntmps46
  go_wp2
  go_ret
  exact ⟨rfl, rfl⟩
set_option maxHeartbeats 400000 in
theorem isReg_m (c : Nat) (hc : c < 16) (w : World) : Calls Try.prog 44 #[.int .i64 c] w fun r w' => r = .returned (.bool true) ∧ w' = w := by
  have h0 : (0 : Int) ≤ (c : Int) := by omega
  have h1 : (c : Int) < 16 := by omega
  go_enter Try.func44, Try.ntmps44
  go_wp2
  go_ret
  exact ⟨rfl, rfl⟩

set_option maxRecDepth 100000 in
set_option maxHeartbeats 800000 in
theorem canStep_any (code : List (List RIns)) (mem : Nat → Nat) (th : Nat → Th) (k base model : Nat) (L : PLoc) (w : World) (hI : PInv 79 82 98 w base L model code.length mem th) (hk : k < code.length) (ib io ic : Nat)
    (hins : ∀ i, i < (code[k]?.getD []).length → InsAt w ib (io + i * 4) ((code[k]?.getD [])[i]?.getD rins0)) :
    Calls Try.prog 39 #[.pointer (some ⟨L.gt, k * 18, none⟩), .slice (some ⟨ib, io, none⟩) (code[k]?.getD []).length ic] w fun r w' => r = .returned (.bool (canS code th k)) ∧ w' = w := by
  have t0 := hI.t0 k hk
  have t2 := hI.t2 k hk
  obtain ⟨a, bc, hbv⟩ := (hI.cb k hk).len
  rw [hbv] at t2
  have HC : Hid (canS code th k = (decide ((th k).pc < (code[k]?.getD []).length) && (!((insOf code k (th k).pc).op == 3) || (th k).buf.isEmpty))) := rfl
  have HI : Hid (∀ i, i < (code[k]?.getD []).length → w.cell? ⟨ib, io + i * 4, none⟩ = some (.int .i64 ((insOf code k i).op : Int))) := fun i hi => (hins i hi).op
  have hbe : (th k).buf.isEmpty = decide ((th k).buf.length = 0) := by cases (th k).buf <;> simp
  rw [hbe] at HC
  clear hI hbv hins hbe
  generalize (th k).buf.length = bl at *
  generalize (th k).pc = pc at *
  have hp0 : ¬ ((pc : Int) < 0) := by omega
  by_cases h1 : pc < (code[k]?.getD []).length
  · have hi := HI.out pc h1
    generalize (insOf code k pc).op = op at *
    generalize (code[k]?.getD []).length = cl at *
    rw [decide_eq_true h1, Bool.true_and] at HC
    have hd1 : ¬ ((cl : Int) ≤ (pc : Int)) := by omega
    by_cases h3 : op = 3
    · subst h3
      have HC2 : Hid (canS code th k = decide (bl = 0)) := by show _ = _; rw [HC.out]; rfl
      by_cases h0 : bl = 0
      · have h0i : ((bl : Int) == 0) = true := by rw [beq_iff_eq]; omega
        have HZ : Hid _ := h0
        clear h0
        go_enter Try.func39, Try.ntmps39
        go_wp2
        go_ret
        exact ⟨by rw [HC2.out, decide_eq_true HZ.out]; rfl, rfl⟩
      · have h0i : ((bl : Int) == 0) = false := by rw [beq_eq_false_iff_ne]; omega
        go_enter Try.func39, Try.ntmps39
        go_wp2
        go_ret
        exact ⟨by rw [HC2.out, decide_eq_false h0]; rfl, rfl⟩
    · have h3i : ((op : Int) != 3) = true := by rw [bne_iff_ne]; omega
      have HC2 : Hid (canS code th k = true) := by
        show _ = _
        rw [HC.out, show (op == 3) = false from by rw [beq_eq_false_iff_ne]; exact h3]; rfl
      go_enter Try.func39, Try.ntmps39
      go_wp2
      go_ret
      exact ⟨by rw [HC2.out]; rfl, rfl⟩
  · have HC2 : Hid (canS code th k = false) := by show _ = _; rw [HC.out, decide_eq_false h1]; rfl
    generalize (code[k]?.getD []).length = cl at *
    have hd1 : ((cl : Int) ≤ (pc : Int)) := by omega
    go_enter Try.func39, Try.ntmps39
    go_wp2
    go_ret
    exact ⟨by rw [HC2.out]; rfl, rfl⟩

set_option maxRecDepth 100000 in
set_option maxHeartbeats 400000 in
theorem canDrain_any (n : Nat) (mem : Nat → Nat) (th : Nat → Th) (k base model : Nat) (L : PLoc) (w : World) (hI : PInv 79 82 98 w base L model n mem th) (hk : k < n) :
    Calls Try.prog 40 #[.pointer (some ⟨L.gt, k * 18, none⟩)] w fun r w' => r = .returned (.bool (!(th k).buf.isEmpty)) ∧ w' = w := by
  have t2 := hI.t2 k hk
  obtain ⟨a, bc, hbv⟩ := (hI.cb k hk).len
  rw [hbv] at t2
  have HBE : Hid ((!(th k).buf.isEmpty) = decide (0 < (th k).buf.length)) := by show _ = _; cases (th k).buf <;> simp
  clear hI hbv
  go_enter Try.func40, Try.ntmps40
  go_wp2
  go_ret
  exact ⟨by rw [HBE.out]; rfl, rfl⟩

theorem OwnMv.below {w0 w w' : World} {base T : Nat} {v v' : Value} {l : List (Nat × Bool)} (h : OwnMv w base T v l) (hg : Grew w w' v v') (hb : Below base w0 w) (hB : base ≤ w.heap.size) : Below base w0 w' := hg.below hb hB h

set_option maxRecDepth 100000 in
set_option maxHeartbeats 800000 in
theorem pmoves_any (code : List (List RIns)) (mem : Nat → Nat) (th : Nat → Th) (base model : Nat) (L : PLoc) (cv : Value) (w : World) (hI : PInv 79 82 98 w base L model code.length mem th)
    (hC : CodesRd w cv code) (hl16 : code.length ≤ 16) :
    Calls Try.prog 30 #[.pointer (some ⟨L.M, 0, none⟩), cv] w fun r w' => ∃ v, r = .returned v ∧ OwnMv w' w.heap.size 75 v (mvs code th) ∧ Below w.heap.size w w' := by
  have c1 := hI.c1
  have hMl := hI.kM.lt
  have htl := hI.kt.lt
  obtain ⟨_, cb, co, cc, rfl, hcbl, hcc⟩ := hC
  have HCC : Hid _ := hcc
  clear hcc
  go_enter Try.func30, Try.ntmps30
  go_wp2
  go_loopw [5, 10] (fun v i wr => ∃ k : Nat, k ≤ code.length ∧ i = .int .i64 k ∧ OwnMv wr w.heap.size 75 v (mvTo code th k) ∧ Below w.heap.size w wr) (fun _ i _ => code.length - (intOf i).toNat)
  case atStart => exact ⟨0, Nat.zero_le _, rfl, OwnMv.nil _ _ _, Below.refl _ _⟩
  case round =>
    obtain ⟨k, hk, rfl, hown, hb⟩ := hrel
    have hml := mvTo_length code th k
    have HB : Hid _ := hb
    have HO : Hid (OwnMv wr w.heap.size 75 _ (mvTo code th k)) := hown
    have hbs := hb.size
    by_cases hlt : k < code.length
    · obtain ⟨vk, hvk, _, ib, io, ic, rfl, hibl, hins⟩ := HCC.out k hlt
      have hvk2 := (hb.cell (p := ⟨cb, co + k, none⟩) hcbl).trans hvk
      have c12 := (hb.cell (p := ⟨L.M, 1, none⟩) hMl).trans c1
      have HIR : Hid _ := hI.kept hb
      have HINS : Hid (∀ i, i < (code[k]?.getD []).length → InsAt wr ib (io + i * 4) ((code[k]?.getD [])[i]?.getD rins0)) := fun i hi => (hins i hi).kept hb hibl
      have hklt : ¬ ((code.length : Int) ≤ (k : Int)) := by omega
      have HS : Hid (mvTo code th (k + 1) = (mvTo code th k ++ if canS code th k then [(k, false)] else []) ++ if (th k).buf.isEmpty then [] else [(k, true)]) := rfl
      have hmLr : L.M < wr.heap.size := by omega
      have HIRx : Hid (PInv 79 82 98 wr base L model code.length mem th) := HIR.out
      have HCS : Hid _ := canStep_any code mem th k base model L wr HIR.out hlt ib io ic HINS.out
      clear hown hb hvk hins HIR
      clear HINS
      generalize mvTo code th k = mk at *
      generalize (code[k]?.getD []).length = cl at *
      go_wp2_with fail
      refine Calls.mono HCS.out ?_
      rintro r w1 ⟨rfl, rfl⟩
      cases hc : canS code th k
      · go_wp2_with fail
        refine (canDrain_any code.length mem th k base model L _ HIRx.out hlt).mono ?_
        rintro r w1 ⟨rfl, rfl⟩
        cases hd : (th k).buf.isEmpty
        · have HS2 : Hid (mvTo code th (k + 1) = mk ++ [(k, true)]) := by show _ = _; rw [HS.out, hc, hd]; simp
          clear hc hd HS
          go_wp2_with (at_builtin; go_must (refine wpList_pushMv rfl _ _ 70 rfl w.heap.size 75 Try.underlying70 Try.infoMove _ mk (k, true) (by rfl) (by rfl) HO.out (by omega) hbs ?_); intro v' w7 hown7 hg7; have HO7 : Hid _ := hown7; have HB7 : Hid (Below w.heap.size w w7) := OwnMv.below HO.out hg7 HB.out hbs; clear hown7 hg7)
          go_roundw
          case rel => exact ⟨k + 1, by omega, by go_num, by rw [HS2.out]; exact HO7.out, HB7.out⟩
          case measure => simp [intOf]; omega
        · have HS2 : Hid (mvTo code th (k + 1) = mk) := by show _ = _; rw [HS.out, hc, hd]; simp
          clear hc hd HS
          go_wp2
          go_roundw
          case rel => exact ⟨k + 1, by omega, by go_num, by rw [HS2.out]; exact HO.out, HB.out⟩
          case measure => simp [intOf]; omega
      · go_wp2_with (first | (at_builtin; go_must (refine wpList_pushMv rfl _ _ 70 rfl w.heap.size 75 Try.underlying70 Try.infoMove _ mk (k, false) (by rfl) (by rfl) HO.out (by omega) hbs ?_); intro v' w7 hown7 hg7; have HO7 : Hid (OwnMv w7 w.heap.size 75 v' (mk ++ [(k, false)])) := hown7; have HB7 : Hid (Below w.heap.size w w7) := OwnMv.below HO.out hg7 HB.out hbs; have hbs7 : w.heap.size ≤ w7.heap.size := HB7.out.size; have c17 := (HB7.out.cell (p := ⟨L.M, 1, none⟩) hMl).trans c1; have HI7 : Hid _ := hI.kept HB7.out; clear hown7 hg7 c12 hvk2) | fail)
        refine (canDrain_any code.length mem th k base model L _ HI7.out hlt).mono ?_
        rintro r w8 ⟨rfl, rfl⟩
        have hml2 : (mk ++ [(k, false)]).length ≤ 1000 := by simp; omega
        cases hd : (th k).buf.isEmpty
        · have HS2 : Hid (mvTo code th (k + 1) = mk ++ [(k, false)] ++ [(k, true)]) := by show _ = _; rw [HS.out, hc, hd]; simp
          clear hc hd HS
          go_wp2_with (at_builtin; go_must (refine wpList_pushMv rfl _ _ 70 rfl w.heap.size 75 Try.underlying70 Try.infoMove _ (mk ++ [(k, false)]) (k, true) (by rfl) (by rfl) HO7.out hml2 hbs7 ?_); intro v' w9 hown9 hg9; have HO9 : Hid _ := hown9; have HB9 : Hid (Below w.heap.size w w9) := OwnMv.below HO7.out hg9 HB7.out hbs7; clear hown9 hg9)
          go_roundw
          case rel => exact ⟨k + 1, by omega, by go_num, by rw [HS2.out]; exact HO9.out, HB9.out⟩
          case measure => simp [intOf]; omega
        · have HS2 : Hid (mvTo code th (k + 1) = mk ++ [(k, false)]) := by show _ = _; rw [HS.out, hc, hd]; simp
          clear hc hd HS
          go_wp2
          go_roundw
          case rel => exact ⟨k + 1, by omega, by go_num, by rw [HS2.out]; exact HO7.out, HB7.out⟩
          case measure => simp [intOf]; omega
    · have : k = code.length := by omega
      subst this
      clear hown
      go_wp2
      go_ret
      exact ⟨_, rfl, HO.out, HB.out⟩

end Go.Proofs.Ytokfiflflcfidab
