import Derived.Test.YtokfiflflcfidabRows
import Derived.Test.YtokfiflflcfidabAlM
import Derived.Test.YtokfiflflcfidabAlA
import Derived.Test.YtokfiflflcfidabZInt
import Derived.Test.YtokfiflflcfidabSndT
import Derived.WalkKit
import Derived.WalkSpells
import Derived.WalkLawsBesides
import Derived.RegionTactic
import Derived.BigRegion
import Derived.Deep.QuietTactic
import Derived.BigQuiet
namespace Go.Proofs.Ytokfiflflcfidab
open Go.RowKit

set_option maxRecDepth 100000 in
set_option maxHeartbeats 800000 in
theorem pickA_any (l : List Int) (lv : Value) (i n : Nat) (w : World) (hS : ScrRd w lv l) (hn : 0 < n ∧ n ≤ 100) (hlt : i < l.length) (_hl : l.length ≤ 9223372036854775807) :
    Calls Try.prog 13 #[lv, .int .i64 i, .int .i64 n] w fun r w' => r = .returned (.int .i64 (pickN (l[i]?.getD 0) n : Nat)) ∧ w' = w := by
  obtain ⟨sa, sc, rfl, hsc⟩ := hS
  have hn0 : ¬ ((n : Int) = 0) := by omega
  have hnn : ¬ (n = 0) := by omega
  obtain ⟨b, off, rfl, hb, hc, hc1, hc2⟩ := hsc i hlt
  generalize l[i]?.getD 0 = c at *
  have HP : Hid (((pickN c n : Nat) : Int) = (if c < 0 then -(c + 1) else c) % (n : Int)) := by
    show _ = _
    unfold pickN
    have h1 := Int.emod_nonneg (if c < 0 then -(c + 1) else c) (by omega : (n : Int) ≠ 0)
    omega
  have hge : ¬ ((l.length : Int) ≤ (i : Int)) := by omega
  clear hsc
  by_cases h : c < 0
  · go_enter Try.func13, Try.ntmps13
    go_wp2
    go_ret
    refine ⟨?_, rfl⟩
    show Ending.returned (Value.int .i64 (-((c + 1).tmod (n : Int)))) = _
    rw [HP.out, if_pos h, ← Int.neg_tmod, Int.tmod_eq_emod_of_nonneg (by omega)]
  · go_enter Try.func13, Try.ntmps13
    go_wp2
    go_ret
    refine ⟨?_, rfl⟩
    show Ending.returned (Value.int .i64 (c % (n : Int))) = _
    rw [HP.out, if_neg (by omega)]

/-- the two tests, boxed, and their code: all of it lies below B -/
structure AW (TT TU B : Nat) (w wr : World) (nv : ByteArray) (ub : Nat) (cu : Value) (vb : Nat) (cv wv : Value) (c : List (List Q4)) : Prop where
  below : Below w.heap.size w wr
  hB : B ≤ wr.heap.size
  wB : w.heap.size ≤ B
  uB : ub < B
  u : wr.heap[ub]? = some (.cells #[.string nv, cu, .slice none 0 0] TT (0, 0))
  vB : vb < B
  v : wr.heap[vb]? = some (.cells #[.string nv, cv, wv] TU (0, 0))
  CU : Rd44 0 B wr cu c
  CV : Rd44 0 B wr cv c
  WV : Rd4 0 B wr wv []
theorem AW.keptB {TT TU B : Nat} {w wr w' : World} {nv : ByteArray} {ub : Nat} {cu : Value} {vb : Nat} {cv wv : Value} {c : List (List Q4)} (h : AW TT TU B w wr nv ub cu vb cv wv c) (hb : Below B wr w') : AW TT TU B w w' nv ub cu vb cv wv c where
  below := h.below.trans (hb.mono h.wB)
  hB := Nat.le_trans h.hB hb.size
  wB := h.wB
  uB := h.uB
  u := (hb.block _ h.uB).trans h.u
  vB := h.vB
  v := (hb.block _ h.vB).trans h.v
  CU := Rd44.span h.CU (Span.of_below hb (Nat.le_refl _))
  CV := Rd44.span h.CV (Span.of_below hb (Nat.le_refl _))
  WV := Rd4.span h.WV (Span.of_below hb (Nat.le_refl _))
theorem AW.kept {TT TU B : Nat} {w wr w' : World} {nv : ByteArray} {ub : Nat} {cu : Value} {vb : Nat} {cv wv : Value} {c : List (List Q4)} (h : AW TT TU B w wr nv ub cu vb cv wv c) (hb : Below wr.heap.size wr w') : AW TT TU B w w' nv ub cu vb cv wv c := h.keptB (hb.mono h.hB)
theorem AW.u1 {TT TU B : Nat} {w wr : World} {nv : ByteArray} {ub : Nat} {cu : Value} {vb : Nat} {cv wv : Value} {c : List (List Q4)} (h : AW TT TU B w wr nv ub cu vb cv wv c) : wr.cell? ⟨ub, 1, none⟩ = some cu ∧ ub < wr.heap.size := by
  refine ⟨?_, Nat.lt_of_lt_of_le h.uB h.hB⟩
  rw [cell_of_row _ _ _ _ _ _ h.u]; rfl
theorem AW.vc {TT TU B : Nat} {w wr : World} {nv : ByteArray} {ub : Nat} {cu : Value} {vb : Nat} {cv wv : Value} {c : List (List Q4)} (h : AW TT TU B w wr nv ub cu vb cv wv c) : wr.cell? ⟨vb, 0, none⟩ = some (.string nv) ∧ wr.cell? ⟨vb, 1, none⟩ = some cv ∧ wr.cell? ⟨vb, 2, none⟩ = some wv ∧ vb < wr.heap.size := by
  refine ⟨?_, ?_, ?_, Nat.lt_of_lt_of_le h.vB h.hB⟩ <;> rw [cell_of_row _ _ _ _ _ _ h.v] <;> rfl

theorem wpList_pushZG {P : Program} {wr : World} {ops : Array Oper} {rest : List Oper} {o : Oper} {a : Act} {Q : Exit → Act → World → Prop} (hgd : o.guard = none) (s x : Operand) (t : TypeId)
    (ho : o.op = .call { callee := .builtin .append, args := #[s, x], argTypes := #[t, t] })
    (base : Nat) (T : TypeId) (ht : P.underlying t = some (.slice T)) (hinfo : (P.info? T).map (fun i => (i.zero, i.size, i.bytes)) = some (some (.int .i64 0), 1, 8))
    (v : Value) (l : List Int) (e : Int) (hs : a.eval s = v) (hx : a.eval x = .slice (some ⟨wr.heap.size, 0, none⟩) 1 1)
    (hown : OwnZ wr base T v l) (hlen : l.length ≤ 1000000) (hbase : base ≤ wr.heap.size)
    (h : ∀ v' w', OwnZ w' base T v' (l ++ [e]) → Grew wr w' v v' → wpList P ops Q rest (a.put o.dst v') w') :
    wpList P ops Q (o :: rest) a (wr.alloc (.cells #[.int .i64 e] T)) := by
  refine wpList_pushG hgd s x t ho base T (.int .i64 0) 8 ht hinfo rfl v (intsV l) (.int .i64 e) rfl hs hx hown (by rw [intsV_length]; omega) (by rw [intsV_length]; unfold maxLen; omega) hbase ?_
  intro v' w' h1 h2
  refine h v' w' ?_ h2
  unfold OwnZ
  have : intsV (l ++ [e]) = intsV l ++ [.int .i64 e] := by simp [intsV]
  rw [this]
  exact h1
/-- two lists that do not lie in one block -/
def Dj (v u : Value) : Prop := ∀ g, v.ownBlock = some g → u.ownBlock ≠ some g
theorem Dj.symm {v u : Value} (h : Dj v u) : Dj u v := fun g hu hv => h g hv hu
theorem Dj.grew {w w' : World} {v v' u : Value} {base T : Nat} {l : List Int} (h : Dj v u) (hg : Grew w w' v v') (hu : OwnZ w base T u l) : Dj v' u := fun g hv hgu => by
  rcases hg.2 g hv with e | e
  · exact h g e hgu
  · have := (World.ownsRow.lt hu g hgu).2
    omega
theorem OwnZ.grew {w w' : World} {v v' u : Value} {base T : Nat} {l : List Int} (hu : OwnZ w base T u l) (hg : Grew w w' v v') (h : Dj v u) : OwnZ w' base T u l := by
  rcases id hu.2 with ⟨rfl, hn⟩ | ⟨g, cap, cur, rfl, hbg, hgg, hr⟩
  · exact ⟨hu.1, Or.inl ⟨rfl, hn⟩⟩
  · exact ⟨hu.1, Or.inr ⟨g, cap, cur, rfl, hbg, (hg.block (Array.getElem?_eq_some_iff.1 hgg).1 (fun e => h g e rfl)).trans hgg, hr⟩⟩
/-- the marks of the threads -/
def DRd (w : World) (gd T : Nat) (D : List Bool) : Prop := Blk w gd T ∧ ∀ j, j < D.length → w.cell? ⟨gd, j, none⟩ = some (.bool (D[j]?.getD false))
theorem DRd.kept {w w' : World} {gd T B : Nat} {D : List Bool} (h : DRd w gd T D) (hb : Below B w w') (hg : gd < B) : DRd w' gd T D := by
  obtain ⟨⟨cur, h1⟩, h2⟩ := h
  exact ⟨⟨cur, (hb.block _ hg).trans h1⟩, fun j hj => (hb.cell (p := ⟨gd, j, none⟩) hg).trans (h2 j hj)⟩
theorem DRd.set {w : World} {gd T : Nat} {D : List Bool} (h : DRd w gd T D) {k : Nat} (hk : k < D.length) : DRd (w.setCell ⟨gd, k, none⟩ (.bool true)) gd T (D.set k true) := by
  refine ⟨h.1.set _ _ _, fun j hj => ?_⟩
  rw [List.length_set] at hj
  by_cases hjk : j = k
  · subst hjk
    rw [set_eq _ (h.2 j hj), List.getElem?_set_self hj]
    rfl
  · rw [set_ne _ (Or.inr (fun e => hjk e.symm)), h.2 j hj, List.getElem?_set_ne (fun e => hjk e.symm)]
theorem drd_of {w : World} {base T n : Nat} {v : Value} (h : w.ownsRow base T 1 v n (List.replicate n (.bool false))) (hn : 0 < n) : ∃ gd cap, v = .slice (some ⟨gd, 0, none⟩) n cap ∧ base ≤ gd ∧ gd < w.heap.size ∧ DRd w gd T (List.replicate n false) := by
  rcases id h.2 with ⟨_, h0⟩ | ⟨g, cap, cur, rfl, hbg, hgg, _⟩
  · omega
  · refine ⟨g, cap, rfl, hbg, (Array.getElem?_eq_some_iff.1 hgg).1, ⟨cur, hgg⟩, fun j hj => ?_⟩
    rw [List.length_replicate] at hj
    have := h.cells (g := g) rfl j (.bool false) (by rw [List.getElem?_replicate, if_pos hj])
    have hadd : (⟨g, 0, none⟩ : Addr).add j = ⟨g, 0 + j, none⟩ := by unfold Addr.add; split <;> simp_all
    rw [hadd, Nat.zero_add] at this
    rw [this, List.getElem?_replicate, if_pos hj]
    rfl
theorem Try.infoBoolA : (Try.prog.info? 4).map (fun i => (i.zero, i.size, i.bytes)) = some (some (.bool false), 1, 1) := by kernel_rfl

/-- one instruction a thread: still a sound test -/
theorem one_snd {nm : List UInt8} {code : List (List Q4)} {want : List Q4} (h : sndT nm code want = true) : sndT nm (oneQ code) [] = true := by
  have hl : (oneQ code).length = code.length := by simp [oneQ]
  unfold sndT at h ⊢
  simp only [Bool.and_eq_true, decide_eq_true_eq] at h ⊢
  obtain ⟨⟨⟨⟨⟨⟨h1, h2⟩, h3⟩, h4⟩, h5⟩, h6⟩, h7⟩ := h
  refine ⟨⟨⟨⟨⟨⟨h1, by omega⟩, by omega⟩, by simp⟩, h5⟩, ?_⟩, by simp⟩
  rw [List.all_eq_true] at h6 ⊢
  intro r hr
  obtain ⟨l, hm, rfl⟩ := List.mem_map.1 hr
  have := h6 l hm
  unfold sndRow at this ⊢
  simp only [Bool.and_eq_true, decide_eq_true_eq, List.all_eq_true] at this ⊢
  obtain ⟨⟨k1, k2⟩, k3⟩ := this
  exact ⟨⟨by rw [List.length_take]; omega, by rw [List.length_take]; omega⟩, fun x hx => k3 x (List.mem_of_mem_take hx)⟩
theorem one_row {code : List (List Q4)} {k : Nat} (hk : k < code.length) (hne : 0 < (code[k]?.getD []).length) : (oneQ code)[k]?.getD [] = [(code[k]?.getD [])[0]?.getD q0] := by
  simp only [oneQ, List.getElem?_map, List.getElem?_eq_getElem hk, Option.map_some, Option.getD_some] at hne ⊢
  match hq : code[k], hne with
  | x :: l, _ => simp
theorem one_len (code : List (List Q4)) : (codeR (oneQ code)).length = code.length := by simp [codeR, oneQ]
theorem one_codeR {code : List (List Q4)} {k : Nat} (hk : k < code.length) (hne : 0 < (code[k]?.getD []).length) : (codeR (oneQ code))[k]?.getD [] = [toI ((code[k]?.getD [])[0]?.getD q0)] := by
  have h := one_row hk hne
  have hk2 : k < (oneQ code).length := by simp [oneQ]; exact hk
  rw [List.getElem?_eq_getElem hk2] at h
  unfold codeR
  rw [List.getElem?_map, List.getElem?_eq_getElem hk2]
  simp only [Option.map_some, Option.getD_some] at h ⊢
  rw [h]
  rfl
theorem one_oneC {code : List (List Q4)} (hne : ∀ k, k < code.length → 0 < (code[k]?.getD []).length) : OneC (codeR (oneQ code)) := fun k hk => by
  rw [one_len] at hk
  rw [one_codeR hk (hne k hk)]
  rfl
theorem one_op {code : List (List Q4)} {k : Nat} (hk : k < code.length) (hne : 0 < (code[k]?.getD []).length) (hs : sndI ((code[k]?.getD [])[0]?.getD q0) = true) : (((code[k]?.getD [])[0]?.getD q0).a == 1) = decide ((insOf (codeR (oneQ code)) k 0).op = 1) := by
  have h1 := (sndI_nat hs).1.1
  unfold insOf
  rw [one_codeR hk hne]
  show _ = decide ((toI ((code[k]?.getD [])[0]?.getD q0)).op = 1)
  unfold toI
  rw [Bool.eq_iff_iff, beq_iff_eq, decide_eq_true_eq]
  dsimp only
  omega

end Go.Proofs.Ytokfiflflcfidab
