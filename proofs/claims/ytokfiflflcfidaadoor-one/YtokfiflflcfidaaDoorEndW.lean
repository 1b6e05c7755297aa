import Derived.Test.YtokfiflflcfidaaDoorRows
import Derived.Test.YtokfiflflcfidaaDoorChzX
import Derived.Test.YtokfiflflcfidaaDoorEvW
import Derived.Test.YtokfiflflcfidaaDoorMachM
import Derived.WalkKit
import Derived.WalkSpells
import Derived.WalkLawsBesides
import Derived.Deep.OwnRows
import Derived.RegionTactic
import Derived.BigRegion
import Derived.Deep.QuietTactic
import Derived.BigQuiet
namespace Go.Proofs.YtokfiflflcfidaaDoor
open Go.RowKit

/-- the registers and cells at the end of a choice: of the first k events -/
def endTo (l : List Ev) (fr pl : Nat → Nat) (T : Nat) : Nat → List Nat
  | 0 => List.replicate (T * 16 + 16) 0
  | k + 1 =>
    if (l[k]?.getD ev0).wr then (if pl k + 1 = l.countP (isW (l[k]?.getD ev0).ce) then (endTo l fr pl T k).set (T * 16 + (l[k]?.getD ev0).ce) (l[k]?.getD ev0).va else endTo l fr pl T k)
    else if fr k = 0 then endTo l fr pl T k else (endTo l fr pl T k).set ((l[k]?.getD ev0).th * 16 + rgTo l k k) (l[fr k - 1]?.getD ev0).va
theorem endTo_length (l : List Ev) (fr pl : Nat → Nat) (T k : Nat) : (endTo l fr pl T k).length = T * 16 + 16 := by
  induction k with
  | zero => simp [endTo]
  | succ k ih =>
    rw [endTo]
    split
    · split
      · rw [List.length_set, ih]
      · exact ih
    · split
      · exact ih
      · rw [List.length_set, ih]

theorem Arr.put {w : World} {b : Nat} {l : List Nat} (h : Arr w b 0 l) {j : Nat} (hj : j < l.length) (v : Nat) : Arr (w.setCell ⟨b, j, none⟩ (.int .i64 (v : Int))) b 0 (l.set j v) := by
  refine ⟨by simpa [World.setCell] using h.1, fun k hk => ?_⟩
  rw [List.length_set] at hk
  rw [Nat.zero_add]
  by_cases hkj : k = j
  · subst hkj
    rw [set_eq _ (h.at0 hj), List.getElem?_set_self hj]
    rfl
  · rw [set_ne _ (Or.inr (fun e => hkj e.symm)), h.at0 hk, List.getElem?_set_ne (fun e => hkj e.symm)]

/-- the choice's two lists, boxed at w.heap.size; the end's cells behind it -/
structure EInv (T : Nat) (w wr : World) (fv pv : Value) (e : List Nat) : Prop where
  below : Below w.heap.size w wr
  hR : wr.heap[w.heap.size]? = some (.cells #[fv, pv] T (0, 0))
  arr : Arr wr (w.heap.size + 1) 0 e
  blk : Blk wr (w.heap.size + 1) 3
theorem EInv.put {T : Nat} {w wr : World} {fv pv : Value} {e : List Nat} (h : EInv T w wr fv pv e) {j : Nat} (hj : j < e.length) (v : Nat) : EInv T w (wr.setCell ⟨w.heap.size + 1, j, none⟩ (.int .i64 (v : Int))) fv pv (e.set j v) where
  below := h.below.setCell (by dsimp only; omega) _
  hR := by rw [heap_setCell_other _ _ _ _ (by dsimp only; omega)]; exact h.hR
  arr := h.arr.put hj v
  blk := h.blk.set _ _ _
theorem EInv.drew {T : Nat} {w wr : World} {fv pv : Value} {e : List Nat} (h : EInv T w wr fv pv e) (m : Nat) : EInv T w (wr.drewN m) fv pv e where
  below := below_drewN h.below m
  hR := h.hR
  arr := h.arr.kept (below_drewN (Below.refl _ _) m)
  blk := h.blk.kept (below_drewN (Below.refl _ _) m)
theorem EInv.kept {T : Nat} {w wr w' : World} {fv pv : Value} {e : List Nat} (h : EInv T w wr fv pv e) (hb : Below wr.heap.size wr w') : EInv T w w' fv pv e where
  below := h.below.trans (hb.mono h.below.size)
  hR := by rw [hb.block _ (Array.getElem?_eq_some_iff.1 h.hR).1]; exact h.hR
  arr := h.arr.kept hb
  blk := h.blk.kept hb
theorem EInv.init (T : Nat) (w : World) (fv pv : Value) (N : Nat) : EInv T w ((w.alloc (.cells #[fv, pv] T)).alloc (.cells (madeCells #[.int .i64 0] N) 3)) fv pv (List.replicate N 0) where
  below := ((Below.refl _ _).alloc (Nat.le_refl _) _).alloc (by simp) _
  hR := (Below.heap_alloc _ _ _ (by simp)).trans (heap_alloc_new w _)
  arr := by
    have h1 := heap_alloc_new (w.alloc (.cells #[fv, pv] T)) (.cells (madeCells #[.int .i64 0] N) 3)
    simp only [World.size_alloc] at h1
    refine ⟨by simp, fun k hk => ?_⟩
    rw [List.length_replicate] at hk
    rw [Nat.zero_add, cell_of_row _ _ k _ _ _ h1]
    simp [madeCells, hk, Nat.mod_one]
  blk := by
    have h1 := heap_alloc_new (w.alloc (.cells #[fv, pv] T)) (.cells (madeCells #[.int .i64 0] N) 3)
    simp only [World.size_alloc] at h1
    exact ⟨_, h1⟩

set_option maxRecDepth 100000 in
set_option maxHeartbeats 6400000 in
theorem ended_any (l : List Ev) (b cap : Nat) (fr pl : Nat → Nat) (fv pv : Value) (T : Nat) (w : World) (hA : EArr w b l) (hl : 0 < l.length) (hl2 : l.length ≤ 16) (hT : (l[l.length - 1]?.getD ev0).th + 1 = T) (hT16 : T ≤ 16)
    (hth : ∀ i, i < l.length → (l[i]?.getD ev0).th < T) (hce : ∀ i, i < l.length → (l[i]?.getD ev0).ce < 16) (hva : ∀ i, i < l.length → (l[i]?.getD ev0).va ≤ 64)
    (hF : RdZ w fv ((List.range l.length).map fun i => (fr i : Int) - 1)) (hP : RdZ w pv ((List.range l.length).map fun i => (pl i : Int))) (hfr : ∀ i, i < l.length → fr i ≤ l.length) (hpl : ∀ i, i < l.length → pl i ≤ 64) :
    Calls Tryd.prog 27 #[.slice (some ⟨b, 0, none⟩) l.length cap, .agg #[fv, pv]] w fun r w' => ∃ g c, r = .returned (.slice (some ⟨g, 0, none⟩) (T * 16 + 16) c) ∧ Arr w' g 0 (endTo l fr pl T l.length) ∧ Below w.heap.size w w' := by
  have HF : Hid _ := hF
  have HP : Hid _ := hP
  have HTH : Hid _ := hth
  have HCE : Hid _ := hce
  have HVA : Hid _ := hva
  have HFR : Hid _ := hfr
  have HPL : Hid _ := hpl
  obtain ⟨fa, fc, rfl, hF⟩ := hF
  obtain ⟨pa, pc, rfl, hP⟩ := hP
  obtain ⟨nf, hnf⟩ : ∃ nf, nf = ((List.range l.length).map fun i => (fr i : Int) - 1).length := ⟨_, rfl⟩
  obtain ⟨np, hnp⟩ : ∃ np, np = ((List.range l.length).map fun i => (pl i : Int)).length := ⟨_, rfl⟩
  rw [← hnf, ← hnp]
  have hnf2 : nf = l.length := by rw [hnf]; simp
  have hnp2 : np = l.length := by rw [hnp]; simp
  subst hnf2
  subst hnp2
  clear hnf hnp
  have hbx : Below w.heap.size w (w.alloc (.cells #[.slice fa l.length fc, .slice pa l.length pc] 60)) := (Below.refl _ _).alloc (Nat.le_refl _) _
  have hlast := ((hA.kept hbx).at (i := l.length - 1) (by omega)).th
  have hli : ((l.length : Int) - 1).toNat = l.length - 1 := by omega
  have HTT : Hid _ := hT
  obtain ⟨i0, hi0, hz0, hz1, hz2⟩ := info_parts Tryd.infoInt
  have htl : (l[l.length - 1]?.getD ev0).th ≤ 16 := by omega
  generalize (l[l.length - 1]?.getD ev0).th = tl at *
  subst hT
  clear HTT
  have HFC : Hid (∀ i, i < l.length → ∃ b0, fa = some ⟨b0, 0, none⟩ ∧ b0 < w.heap.size ∧ w.cell? ⟨b0, i, none⟩ = some (.int .i64 ((fr i : Int) - 1))) := by
    intro i hi
    obtain ⟨b0, e1, e2, e3⟩ := hF i (by simpa using hi)
    exact ⟨b0, e1, e2, by simpa [hi] using e3⟩
  have HPC : Hid (∀ i, i < l.length → ∃ b0, pa = some ⟨b0, 0, none⟩ ∧ b0 < w.heap.size ∧ w.cell? ⟨b0, i, none⟩ = some (.int .i64 (pl i : Int))) := by
    intro i hi
    obtain ⟨b0, e1, e2, e3⟩ := hP i (by simpa using hi)
    exact ⟨b0, e1, e2, by simpa [hi] using e3⟩
  clear hF hP HF HP hth hce hva hfr hpl
  go_enter Tryd.func27, Tryd.ntmps27
  go_wp2_with (refine wpList_make_row _ rfl _ _ 25 rfl 3 i0 (.int .i64 0) Tryd.underlying25 hi0 hz0 hz1 rfl .i64 .i64 ((tl + 1) * 16 + 16) (by simp [Act.eval]) (by simp [Act.eval]) (by rw [hz2]; omega) (by omega) ?_)
  go_loopw [7] (fun i wr => ∃ k : Nat, k ≤ l.length ∧ i = .int .i64 k ∧ EInv 60 w wr (.slice fa l.length fc) (.slice pa l.length pc) (endTo l fr pl (tl + 1) k)) (fun i _ => l.length - (intOf i).toNat)
  case atStart => exact ⟨0, Nat.zero_le _, rfl, EInv.init _ _ _ _ _⟩
  case round =>
    clear hlast
    obtain ⟨k, hk, rfl, hI⟩ := hrel
    have hEr := hA.kept hI.below
    have HI : Hid _ := hI
    have hszw : w.heap.size + 1 < wr.heap.size := hI.blk.lt
    have c0 : wr.cell? ⟨w.heap.size, 0, none⟩ = some (.slice fa l.length fc) := by rw [cell_of_row _ _ 0 _ _ _ hI.hR]; rfl
    have c1 : wr.cell? ⟨w.heap.size, 1, none⟩ = some (.slice pa l.length pc) := by rw [cell_of_row _ _ 1 _ _ _ hI.hR]; rfl
    have hln := endTo_length l fr pl (tl + 1) k
    have HLN : Hid _ := hln
    clear hln
    by_cases hlt : k < l.length
    · have E := hEr.at hlt
      have q0 := E.wr
      have q1 := E.th
      have q2 := E.ce
      have q4 := E.va
      have hth := HTH.out k hlt
      have hce := HCE.out k hlt
      have hva := HVA.out k hlt
      have HEND : Hid (endTo l fr pl (tl + 1) (k + 1) = if (l[k]?.getD ev0).wr then (if pl k + 1 = l.countP (isW (l[k]?.getD ev0).ce) then (endTo l fr pl (tl + 1) k).set ((tl + 1) * 16 + (l[k]?.getD ev0).ce) (l[k]?.getD ev0).va else endTo l fr pl (tl + 1) k)
        else if fr k = 0 then endTo l fr pl (tl + 1) k else (endTo l fr pl (tl + 1) k).set ((l[k]?.getD ev0).th * 16 + rgTo l k k) (l[fr k - 1]?.getD ev0).va) := rfl
      have hwc := fun c => writes_any l b cap c wr hEr (by omega)
      have HWC : Hid _ := hwc
      have HER : Hid _ := hEr
      have hbl : b < wr.heap.size := hEr.1
      have hcw : l.countP (isW (l[k]?.getD ev0).ce) ≤ l.length := List.countP_le_length
      clear E hI hwc
      generalize (l[k]?.getD ev0).wr = wk at *
      generalize (l[k]?.getD ev0).th = tk at *
      generalize (l[k]?.getD ev0).ce = ck at *
      generalize (l[k]?.getD ev0).va = vk at *
      cases wk
      · obtain ⟨b0, rfl, hb0, hcf⟩ := HFC.out k hlt
        have x0 := (HI.out.below.cell (p := ⟨b0, k, none⟩) hb0).trans hcf
        have hb0r : b0 < wr.heap.size := by omega
        have hfrk := HFR.out k hlt
        by_cases hf0 : fr k = 0
        · have hneg : ¬ ((0 : Int) ≤ (fr k : Int) - 1) := by omega
          have HE2 : Hid (endTo l fr pl (tl + 1) (k + 1) = endTo l fr pl (tl + 1) k) := by show _ = _; rw [HEND.out, hf0]; simp
          clear hf0
          go_wp2
          go_roundw
          case rel => exact ⟨k + 1, by omega, by go_num, by rw [HE2.out]; exact HI.out⟩
          case measure => simp [intOf]; omega
        · have hpos : (0 : Int) ≤ (fr k : Int) - 1 := by omega
          have HE2 : Hid (endTo l fr pl (tl + 1) (k + 1) = (endTo l fr pl (tl + 1) k).set (tk * 16 + rgTo l k k) (l[fr k - 1]?.getD ev0).va) := by show _ = _; rw [HEND.out, if_neg (by simp), if_neg hf0]
          have hreg := register_any l b cap k wr HER.out hlt (by omega)
          have hrl := rgTo_le l k k
          have hfl : fr k - 1 < l.length := by omega
          have hq := (EArr.at HER.out hfl).va
          have hvj := HVA.out (fr k - 1) hfl
          have hfi : ((fr k : Int) - 1).toNat = fr k - 1 := by omega
          have hfb : (fr k : Int) - 1 < (l.length : Int) := by omega
          generalize (l[fr k - 1]?.getD ev0).va = vj at *
          generalize rgTo l k k = g at *
          clear hf0
          go_wp2_with fail
          refine Calls.mono hreg ?_
          rintro r w1 ⟨rfl, hb1⟩
          have y0 := (hb1.cell (p := ⟨b0, k, none⟩) hb0r).trans x0
          have y1 := (hb1.cell (p := ⟨b, k * 6 + 1, none⟩) hbl).trans q1
          have y2 := (hb1.cell (p := ⟨b, (fr k - 1) * 6 + 4, none⟩) hbl).trans hq
          have y3 := (hb1.cell (p := ⟨w.heap.size, 0, none⟩) (by dsimp only; omega)).trans c0
          have hI1 := HI.out.kept hb1
          have HI1 : Hid _ := hI1
          have hjl : tk * 16 + g < (endTo l fr pl (tl + 1) k).length := by rw [HLN.out]; omega
          have hcx := hI1.arr.at0 hjl
          have hfz := hI1.blk.free (tk * 16 + g)
          have hji : ((tk : Int) * 16 + (g : Int)).toNat = tk * 16 + g := by omega
          have hj0 : (0 : Int) ≤ (tk : Int) * 16 + (g : Int) := by omega
          have hj1 : (tk : Int) * 16 + (g : Int) < (((tl + 1) * 16 + 16 : Nat) : Int) := by omega
          have hj2 : (tk : Int) * 16 + (g : Int) < ((tl : Int) + 1) * 16 + 16 := by omega
          have HPUT : Hid _ := HI1.out.put hjl vj
          clear hreg hb1 x0 q0 q1 q2 q4 hq c0 c1 hI1
          go_wp2
          go_region
          all_goals go_wp2
          all_goals go_roundw
          all_goals first | exact ⟨k + 1, by omega, by go_num, by rw [HE2.out]; exact (EInv.drew HI1.out _).put hjl vj⟩ | (simp [intOf]; omega)
      · obtain ⟨b0, rfl, hb0, hcp⟩ := HPC.out k hlt
        have x0 := (HI.out.below.cell (p := ⟨b0, k, none⟩) hb0).trans hcp
        have hb0r : b0 < wr.heap.size := by omega
        have hplk := HPL.out k hlt
        have hwcall := HWC.out ck
        by_cases hp : pl k + 1 = l.countP (isW ck)
        · have hpI : ((pl k : Int) == ((l.countP (isW ck) : Nat) : Int) - 1) = true := by rw [beq_iff_eq]; omega
          have HE2 : Hid (endTo l fr pl (tl + 1) (k + 1) = (endTo l fr pl (tl + 1) k).set ((tl + 1) * 16 + ck) vk) := by show _ = _; rw [HEND.out, if_pos rfl, if_pos hp]
          have hjl : (tl + 1) * 16 + ck < (endTo l fr pl (tl + 1) k).length := by rw [HLN.out]; omega
          have hcx := HI.out.arr.at0 hjl
          have hfz := HI.out.blk.free ((tl + 1) * 16 + ck)
          have hji : (((tl : Int) + 1) * 16 + (ck : Int)).toNat = (tl + 1) * 16 + ck := by omega
          have hj0 : (0 : Int) ≤ ((tl : Int) + 1) * 16 + (ck : Int) := by omega
          have hj1 : ((tl : Int) + 1) * 16 + (ck : Int) < (((tl + 1) * 16 + 16 : Nat) : Int) := by omega
          have hj2 : ((tl : Int) + 1) * 16 + (ck : Int) < ((tl : Int) + 1) * 16 + 16 := by omega
          generalize l.countP (isW ck) = cnt at *
          clear hp HEND
          go_wp2_with (go_at_call 36; refine Calls.mono hwcall ?_; rintro r w9 ⟨rfl, rfl⟩)
          go_region
          all_goals go_wp2
          all_goals go_roundw
          all_goals first | exact ⟨k + 1, by omega, by go_num, by rw [HE2.out]; exact (EInv.drew HI.out _).put hjl vk⟩ | (simp [intOf]; omega)
        · have hpI : ((pl k : Int) == ((l.countP (isW ck) : Nat) : Int) - 1) = false := by rw [beq_eq_false_iff_ne]; omega
          have HE2 : Hid (endTo l fr pl (tl + 1) (k + 1) = endTo l fr pl (tl + 1) k) := by show _ = _; rw [HEND.out, if_pos rfl, if_neg hp]
          generalize l.countP (isW ck) = cnt at *
          clear hp HEND
          go_wp2_with (go_at_call 36; refine Calls.mono hwcall ?_; rintro r w9 ⟨rfl, rfl⟩)
          go_roundw
          case rel => exact ⟨k + 1, by omega, by go_num, by rw [HE2.out]; exact HI.out⟩
          case measure => simp [intOf]; omega
    · have hke : k = l.length := by omega
      subst hke
      go_wp2
      go_ret
      exact ⟨_, _, rfl, HI.out.arr, HI.out.below⟩

end Go.Proofs.YtokfiflflcfidaaDoor
