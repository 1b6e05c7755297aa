import Derived.Test.YtokfiflflcfidabDoorRows
import Derived.Test.YtokfiflflcfidabDoorPlain
import Derived.Test.YtokfiflflcfidabDoorMem
import Derived.Test.YtokfiflflcfidabDoorMemQ
import Derived.Test.YtokfiflflcfidabDoorMachM
import Derived.WalkKit
import Derived.WalkSpells
import Derived.WalkLawsBesides
import Derived.Deep.QuietTactic
import Derived.BigQuiet
import Derived.Test.YtokfiflflcfidabDoorSndM
import Derived.Test.YtokfiflflcfidabDoorEvB
import Derived.RegionTactic
import Derived.BigRegion
import Derived.Deep.RegionWith
namespace Go.Proofs.YtokfiflflcfidabDoor
open Go.RowKit

theorem Tryd.infoRIns : (Tryd.prog.info? 98).map (fun i => (i.zero, i.size, i.bytes)) = some (some (.agg #[.int .i64 0, .int .i64 0, .int .i64 0, .int .i64 0]), 4, 32) := by kernel_rfl
theorem Tryd.infoRInss : (Tryd.prog.info? 83).map (fun i => (i.zero, i.size, i.bytes)) = some (some (.slice none 0 0), 1, 24) := by kernel_rfl
theorem Tryd.infoRClaim : (Tryd.prog.info? 101).map (fun i => (i.zero, i.size, i.bytes)) = some (some (.agg #[.int .i64 0, .int .i64 0, .int .i64 0, .int .i64 0]), 4, 32) := by kernel_rfl

/-- the test that is read: at w.heap.size; the answer, behind it; and the test that is being made -/
structure GInv (TT TU : Nat) (w wr : World) (nv : ByteArray) (cv wv uc uw : Value) : Prop where
  below : Below w.heap.size w wr
  sz : w.heap.size + 3 ≤ wr.heap.size
  hT : wr.heap[w.heap.size]? = some (.cells #[.string nv, cv, wv] TT (0, 0))
  hR : wr.heap[w.heap.size + 1]? = some (.cells #[.string ⟨#[]⟩, .slice none 0 0, .slice none 0 0] TU (0, 0))
  hU : wr.heap[w.heap.size + 1 + 1]? = some (.cells #[.string nv, uc, uw] TU (0, 0))
theorem GInv.init (TT TU : Nat) (w : World) (nv : ByteArray) (cv wv : Value) : GInv TT TU w (((w.alloc (.cells #[.string nv, cv, wv] TT)).alloc (.cells #[.string ⟨#[]⟩, .slice none 0 0, .slice none 0 0] TU)).alloc (.cells #[.string nv, .slice none 0 0, .slice none 0 0] TU)) nv cv wv (.slice none 0 0) (.slice none 0 0) where
  below := (((Below.refl _ _).alloc (Nat.le_refl _) _).alloc (by simp) _).alloc (by simp; omega) _
  sz := by simp
  hT := (Below.heap_alloc _ _ _ (by simp; omega)).trans ((Below.heap_alloc _ _ _ (by simp)).trans (heap_alloc_new w _))
  hR := by
    have h1 := heap_alloc_new (w.alloc (.cells #[.string nv, cv, wv] TT)) (.cells #[.string ⟨#[]⟩, .slice none 0 0, .slice none 0 0] TU)
    simp only [World.size_alloc] at h1
    exact (Below.heap_alloc _ _ _ (by simp)).trans h1
  hU := by
    have h1 := heap_alloc_new ((w.alloc (.cells #[.string nv, cv, wv] TT)).alloc (.cells #[.string ⟨#[]⟩, .slice none 0 0, .slice none 0 0] TU)) (.cells #[.string nv, .slice none 0 0, .slice none 0 0] TU)
    simp only [World.size_alloc] at h1
    exact h1
section
variable {TT TU : Nat} {w wr : World} {nv : ByteArray} {cv wv uc uw : Value}
theorem GInv.t1 (h : GInv TT TU w wr nv cv wv uc uw) : wr.cell? ⟨w.heap.size, 1, none⟩ = some cv := by rw [cell_of_row _ _ 1 _ _ _ h.hT]; rfl
theorem GInv.t2 (h : GInv TT TU w wr nv cv wv uc uw) : wr.cell? ⟨w.heap.size, 2, none⟩ = some wv := by rw [cell_of_row _ _ 2 _ _ _ h.hT]; rfl
theorem GInv.u0 (h : GInv TT TU w wr nv cv wv uc uw) : wr.cell? ⟨w.heap.size + 1 + 1, 0, none⟩ = some (.string nv) := by rw [cell_of_row _ _ 0 _ _ _ h.hU]; rfl
theorem GInv.u1 (h : GInv TT TU w wr nv cv wv uc uw) : wr.cell? ⟨w.heap.size + 1 + 1, 1, none⟩ = some uc := by rw [cell_of_row _ _ 1 _ _ _ h.hU]; rfl
theorem GInv.u2 (h : GInv TT TU w wr nv cv wv uc uw) : wr.cell? ⟨w.heap.size + 1 + 1, 2, none⟩ = some uw := by rw [cell_of_row _ _ 2 _ _ _ h.hU]; rfl
theorem GInv.free (h : GInv TT TU w wr nv cv wv uc uw) (o : Nat) : wr.frozen? ⟨w.heap.size + 1 + 1, o, none⟩ = false := frozen_of_row wr _ o _ TU h.hU
theorem GInv.freeR (h : GInv TT TU w wr nv cv wv uc uw) (o : Nat) : wr.frozen? ⟨w.heap.size + 1, o, none⟩ = false := frozen_of_row wr _ o _ TU h.hR
theorem GInv.r (h : GInv TT TU w wr nv cv wv uc uw) : wr.cell? ⟨w.heap.size + 1, 0, none⟩ = some (.string ⟨#[]⟩) ∧ wr.cell? ⟨w.heap.size + 1, 1, none⟩ = some (.slice none 0 0) ∧ wr.cell? ⟨w.heap.size + 1, 2, none⟩ = some (.slice none 0 0) := by
  refine ⟨?_, ?_, ?_⟩ <;> rw [cell_of_row _ _ _ _ _ _ h.hR] <;> rfl
theorem GInv.span (h : GInv TT TU w wr nv cv wv uc uw) {w' : World} (hb : Below w.heap.size wr w') (hs : Span w.heap.size (w.heap.size + 3) wr w') : GInv TT TU w w' nv cv wv uc uw where
  below := h.below.trans hb
  sz := by have := h.sz; have := hs.size; omega
  hT := by rw [hs.block _ (by omega) (by omega)]; exact h.hT
  hR := by rw [hs.block _ (by omega) (by omega)]; exact h.hR
  hU := by rw [hs.block _ (by omega) (by omega)]; exact h.hU
theorem GInv.kept (h : GInv TT TU w wr nv cv wv uc uw) {w' : World} {B : Nat} (hb : Below B wr w') (hB : w.heap.size + 3 ≤ B) : GInv TT TU w w' nv cv wv uc uw :=
  h.span (hb.mono (by omega)) (Span.of_below hb hB)
theorem GInv.grew (h : GInv TT TU w wr nv cv wv uc uw) {w' : World} {v v' : Value} (hg : Grew wr w' v v') (hv : ∀ k, v.ownBlock = some k → w.heap.size + 3 ≤ k) : GInv TT TU w w' nv cv wv uc uw := by
  have hsz := h.sz
  refine h.span ⟨hg.1.os, hg.1.tape, hg.1.output, hg.size, fun k hk => ?_⟩ ⟨hg.size, fun k h1 h2 => ?_⟩
  · exact hg.block (by omega) (fun e => by have := hv k e; omega)
  · exact hg.block (by omega) (fun e => by have := hv k e; omega)
theorem GInv.set1 (h : GInv TT TU w wr nv cv wv uc uw) (u : Value) : GInv TT TU w (wr.setCell ⟨w.heap.size + 1 + 1, 1, none⟩ u) nv cv wv u uw where
  below := h.below.setCell (by dsimp only; omega) u
  sz := by have := h.sz; simpa [World.setCell] using this
  hT := by rw [heap_setCell_other _ _ _ _ (by dsimp only; omega)]; exact h.hT
  hR := by rw [heap_setCell_other _ _ _ _ (by dsimp only; omega)]; exact h.hR
  hU := heap_setCell_same wr _ 1 _ _ u h.hU
theorem GInv.set2 (h : GInv TT TU w wr nv cv wv uc uw) (u : Value) : GInv TT TU w (wr.setCell ⟨w.heap.size + 1 + 1, 2, none⟩ u) nv cv wv uc u where
  below := h.below.setCell (by dsimp only; omega) u
  sz := by have := h.sz; simpa [World.setCell] using this
  hT := by rw [heap_setCell_other _ _ _ _ (by dsimp only; omega)]; exact h.hT
  hR := by rw [heap_setCell_other _ _ _ _ (by dsimp only; omega)]; exact h.hR
  hU := heap_setCell_same wr _ 2 _ _ u h.hU
theorem GInv.fin (h : GInv TT TU w wr nv cv wv uc uw) (a b c : Value) : Span (w.heap.size + 3) wr.heap.size wr (((wr.setCell ⟨w.heap.size + 1, 0, none⟩ a).setCell ⟨w.heap.size + 1, 1, none⟩ b).setCell ⟨w.heap.size + 1, 2, none⟩ c) ∧ Below w.heap.size w (((wr.setCell ⟨w.heap.size + 1, 0, none⟩ a).setCell ⟨w.heap.size + 1, 1, none⟩ b).setCell ⟨w.heap.size + 1, 2, none⟩ c) :=
  ⟨(((Span.refl _ _ wr).set (Or.inl (by omega)) _).set (Or.inl (by omega)) _).set (Or.inl (by omega)) _, ((h.below.setCell (by dsimp only; omega) _).setCell (by dsimp only; omega) _).setCell (by dsimp only; omega) _⟩
end

theorem take_snocQ (l : List Q4) (n : Nat) (h : n < l.length) : l.take (n + 1) = l.take n ++ [l[n]?.getD q0] := by
  rw [List.take_succ_eq_append_getElem h]; simp [h]
theorem take_snocQQ (l : List (List Q4)) (n : Nat) (h : n < l.length) : l.take (n + 1) = l.take n ++ [l[n]?.getD []] := by
  rw [List.take_succ_eq_append_getElem h]; simp [h]

set_option maxRecDepth 100000 in
set_option maxHeartbeats 1600000 in
theorem given_any (nv : ByteArray) (cv wv : Value) (code : List (List Q4)) (want : List Q4) (lo hi : Nat) (w : World) (hC : Rd44 lo hi w cv code) (hW : Rd4 lo hi w wv want) (hhi : hi ≤ w.heap.size)
    (b1 : code.length ≤ 1000000000) (b2 : ∀ k : Nat, (code[k]?.getD []).length ≤ 1000000000) (b3 : want.length ≤ 1000000000) :
    Calls Tryd.prog 21 #[.agg #[.string nv, cv, wv]] w fun r w' => ∃ cv' wv', r = .returned (.agg #[.string nv, cv', wv']) ∧ Rd44 w.heap.size w'.heap.size w' cv' code ∧ Rd4 w.heap.size w'.heap.size w' wv' want ∧ Below w.heap.size w w' := by
  obtain ⟨ca, cc, rfl, hC⟩ := hC
  obtain ⟨wa, wc, rfl, hW⟩ := hW
  have HC : Hid _ := hC
  have HW : Hid _ := hW
  have HB2 : Hid _ := b2
  clear hC hW b2
  go_enter Tryd.func21, Tryd.ntmps21
  go_wp2
  go_loopw [4] (fun i wr => ∃ (k : Nat) (uc : Value), k ≤ code.length ∧ i = .int .i64 k ∧ GInv 52 33 w wr nv (.slice ca code.length cc) (.slice wa want.length wc) uc (.slice none 0 0) ∧ Own44 wr (w.heap.size + 3) 83 uc (code.take k)) (fun i _ => code.length - (intOf i).toNat)
  case atStart =>
    exact ⟨0, .slice none 0 0, Nat.zero_le _, rfl, GInv.init _ _ _ _ _ _, Own44.nil _ _ _⟩
  case round =>
    rename World => wo
    obtain ⟨k, uc, hk, rfl, hI, hown⟩ := hrel
    have ht1 := hI.t1
    have ht2 := hI.t2
    have hsz := hI.sz
    have hbl := hI.below
    obtain ⟨ua, un, hul⟩ := hown.len
    rw [List.length_take, Nat.min_eq_left hk] at hul
    subst hul
    have hu1 := hI.u1
    have HI : Hid _ := hI
    have HO : Hid _ := hown
    have hB0 : w.heap.size < wo.heap.size := by omega
    have hB2 : w.heap.size + 1 + 1 < wo.heap.size := by omega
    by_cases hlt : k < code.length
    · obtain ⟨cb, co, vk, rfl, hcl, hch, hcell, hrow⟩ := HC.out k hlt
      have hcb : cb < w.heap.size := by omega
      obtain ⟨ra, rc, rfl, hrow⟩ := hrow
      have HROW : Hid _ := hrow
      have hck := (hbl.cell (p := ⟨cb, co + k, none⟩) hcb).trans hcell
      have hrl := HB2.out k
      have HS : Hid _ := take_snocQQ code k hlt
      clear hrow hcell hI hown hbl
      generalize code[k]?.getD [] = row at *
      go_wp2
      go_loopw [5, 6] (fun v i wr => ∃ j : Nat, j ≤ row.length ∧ i = .int .i64 j ∧ Own4 wr wo.heap.size 98 v (row.take j) ∧ Below wo.heap.size wo wr) (fun _ i _ => row.length - (intOf i).toNat)
      case atStart => exact ⟨0, Nat.zero_le _, rfl, Own4.nil _ _ _, Below.refl _ _⟩
      case round =>
        obtain ⟨j, hj, rfl, hown4, hbi⟩ := hrel
        have g1 := (hbi.cell (p := ⟨w.heap.size, 1, none⟩) hB0).trans ht1
        have g2 := (hbi.cell (p := ⟨cb, co + k, none⟩) (by dsimp only; omega)).trans hck
        have hsi := hbi.size
        have hcbw : cb < wr.heap.size := by omega
        have hB0i : w.heap.size < wr.heap.size := by omega
        have HBI : Hid _ := hbi
        have HO4 : Hid _ := hown4
        clear ht1 hck hbi hown4
        by_cases hjl : j < row.length
        · obtain ⟨rb, ro, rfl, hrlo, hrhi, hat⟩ := HROW.out j hjl
          have hrbo : rb < wo.heap.size := by omega
          have hrbw : rb < w.heap.size := by omega
          have x0 := ((HBI.out.cell (p := ⟨rb, ro + j * 4, none⟩) hrbo).trans ((HI.out.below.cell (p := ⟨rb, ro + j * 4, none⟩) hrbw).trans hat.f0))
          have x1 := ((HBI.out.cell (p := ⟨rb, ro + j * 4 + 1, none⟩) hrbo).trans ((HI.out.below.cell (p := ⟨rb, ro + j * 4 + 1, none⟩) hrbw).trans hat.f1))
          have x2 := ((HBI.out.cell (p := ⟨rb, ro + j * 4 + 2, none⟩) hrbo).trans ((HI.out.below.cell (p := ⟨rb, ro + j * 4 + 2, none⟩) hrbw).trans hat.f2))
          have x3 := ((HBI.out.cell (p := ⟨rb, ro + j * 4 + 3, none⟩) hrbo).trans ((HI.out.below.cell (p := ⟨rb, ro + j * 4 + 3, none⟩) hrbw).trans hat.f3))
          have HSJ : Hid _ := take_snocQ row j hjl
          have hlj : (row.take j).length ≤ 1000000000000 := by rw [List.length_take]; omega
          clear hat
          generalize row[j]?.getD q0 = x at *
          go_wp2_with (at_builtin; go_must (refine wpList_push4 rfl _ _ 83 rfl wo.heap.size 98 Tryd.underlying83 Tryd.infoRIns _ _ x (by rfl) (by simp [Act.eval]) (HO4.out.alloc _) hlj (by simp; omega) ?_); intro v' w1 hown1 hg1; clear x0 x1 x2 x3 g1 g2)
          go_roundw
          case rel => exact ⟨j + 1, by omega, by go_num, by rw [HSJ.out]; exact hown1, hg1.below (HBI.out.alloc (by omega) _) (by simp; omega) (HO4.out.alloc _)⟩
          case measure => simp [intOf]; omega
        · have hje : row.take j = row := List.take_of_length_le (by omega)
          obtain ⟨va, vc, hva⟩ := Own4.len HO4.out
          rw [hje] at hva
          subst hva
          have HO5 : Hid _ := HO4.out
          rw [hje] at HO5
          have hO44 := Own44.span HO.out (Span.of_below (lo := 0) HBI.out (Nat.le_refl _)) (Nat.zero_le _) (Nat.le_refl _)
          have hIr := HI.out.kept HBI.out hsz
          have hu1r := hIr.u1
          have hkl : (code.take k).length ≤ 1000000000000 := by rw [List.length_take]; omega
          have HIR : Hid _ := hIr
          have HO44 : Hid _ := hO44
          have hB2r : w.heap.size + 1 + 1 < wr.heap.size := by omega
          clear hIr hO44 hu1 hje
          go_wp2_with (at_builtin; go_must (refine wpList_push44 rfl _ _ 30 rfl (w.heap.size + 3) 83 Tryd.underlying30 Tryd.infoRInss _ (code.take k) row _ wo.heap.size 98 HO5.out hsz (fun b hb => (Own44.lt HO.out hb).2) (by rfl) (by rfl) HO44.out hkl (by omega) ?_); intro v' w2 hown2 hg2; obtain ⟨a', c', hv'⟩ := Own44.len hown2; rw [← HS.out, List.length_take, Nat.min_eq_left hlt] at hv'; subst hv'; have hI2 := HIR.out.grew hg2 (fun b hb => (Own44.lt HO.out hb).1); have s3 := hI2.u1; have s4 := hI2.free 1; have HI2 : Hid _ := hI2; have HOW2 : Hid _ := hown2; clear hown2 hI2 hg2 hu1r g1 g2)
          go_roundw
          case rel => exact ⟨k + 1, _, by omega, by go_num, HI2.out.set1 _, by rw [HS.out]; exact Own44.span HOW2.out ((Span.refl (w.heap.size + 3) w2.heap.size w2).set (Or.inl (by omega)) _) (Nat.le_refl _) (Nat.le_refl _)⟩
          case measure => simp [intOf]; omega
    · have hke : code.take k = code := List.take_of_length_le (by omega)
      rw [hke] at HO
      have HU : Hid _ := HI.out
      clear hI hown hu1
      go_wp2
      go_loopw [8] (fun i wr => ∃ (j : Nat) (uw : Value), j ≤ want.length ∧ i = .int .i64 j ∧ GInv 52 33 w wr nv (.slice ca code.length cc) (.slice wa want.length wc) (.slice ua k un) uw ∧ Own4 wr wo.heap.size 101 uw (want.take j) ∧ Span (w.heap.size + 3) wo.heap.size wo wr) (fun i _ => want.length - (intOf i).toNat)
      case atStart => exact ⟨0, .slice none 0 0, Nat.zero_le _, rfl, HI.out, Own4.nil _ _ _, Span.refl _ _ _⟩
      case round =>
        obtain ⟨j, uw, hj, rfl, hI3, hown3, hsp⟩ := hrel
        obtain ⟨uwa, uwn, hul⟩ := hown3.len
        rw [List.length_take, Nat.min_eq_left hj] at hul
        subst hul
        have g2 := hI3.t2
        have g3 := hI3.u2
        have hss := hsp.size
        have HI3 : Hid _ := hI3
        have HO3 : Hid _ := hown3
        have HSP : Hid _ := hsp
        have hB0i : w.heap.size < wr.heap.size := by omega
        have hB2i : w.heap.size + 1 + 1 < wr.heap.size := by omega
        clear ht2
        by_cases hjl : j < want.length
        · obtain ⟨rb, ro, rfl, hrlo, hrhi, hat⟩ := HW.out j hjl
          have hrbw : rb < w.heap.size := by omega
          have hrbr : rb < wr.heap.size := by omega
          have x0 := (hI3.below.cell (p := ⟨rb, ro + j * 4, none⟩) hrbw).trans hat.f0
          have x1 := (hI3.below.cell (p := ⟨rb, ro + j * 4 + 1, none⟩) hrbw).trans hat.f1
          have x2 := (hI3.below.cell (p := ⟨rb, ro + j * 4 + 2, none⟩) hrbw).trans hat.f2
          have x3 := (hI3.below.cell (p := ⟨rb, ro + j * 4 + 3, none⟩) hrbw).trans hat.f3
          have HSJ : Hid _ := take_snocQ want j hjl
          have hlj : (want.take j).length ≤ 1000000000000 := by rw [List.length_take]; omega
          clear hat hI3 hown3 hsp
          generalize want[j]?.getD q0 = x at *
          have hbn : ¬ (w.heap.size + 1 + 1 = wr.heap.size) := by omega
          go_wp2_with (at_builtin; go_must (refine wpList_push4 rfl _ _ 31 rfl wo.heap.size 101 Tryd.underlying31 Tryd.infoRClaim _ _ x (by rfl) (by simp [Act.eval]) (HO3.out.alloc _) hlj (by simp; omega) ?_); intro v' w2 hown2 hg2; obtain ⟨a', c', hv'⟩ := Own4.len hown2; rw [← HSJ.out, List.length_take, Nat.min_eq_left hjl] at hv'; subst hv'; have hI4 := (HI3.out.kept ((Below.refl wr.heap.size wr).alloc (Nat.le_refl _) _) (by omega)).grew hg2 (fun b hb => by have := (HO3.out.lt b hb).1; omega); have s3 := hI4.u2; have s4 := hI4.free 2; have HI4 : Hid _ := hI4; have HOW2 : Hid _ := hown2; have HG2 : Hid _ := hg2; clear hown2 hI4 hg2 g2 g3 x0 x1 x2 x3)
          go_roundw
          case rel => exact ⟨j + 1, _, by omega, by go_num, HI4.out.set2 _, by rw [HSJ.out]; exact ownsRow_span HOW2.out ((Span.refl wo.heap.size w2.heap.size w2).set (Or.inl (by omega)) _) (Nat.le_refl _) (Nat.le_refl _), ((HSP.out.alloc hss _).grew HG2.out (by simp; omega) (fun b hb => Or.inr (HO3.out.lt b hb).1)).set (Or.inl (by omega)) _⟩
          case measure => simp [intOf]; omega
        · have hje : want.take j = want := List.take_of_length_le (by omega)
          rw [hje] at HO3
          have u0 := hI3.u0
          have u1 := hI3.u1
          have f0 := hI3.freeR 0
          have f1 := hI3.freeR 1
          have f2 := hI3.freeR 2
          obtain ⟨r0, r1, r2⟩ := hI3.r
          have hR1 : w.heap.size + 1 < wr.heap.size := by omega
          clear hI3 hown3 hsp hje
          go_wp2
          refine bodyPost_ret (v := .agg #[.string nv, .slice ua k un, .slice uwa j uwn]) (by simp [results, Tryd.results21, go_sem, r0, r1, r2]) rfl ⟨_, _, rfl, ?_, ?_, ?_⟩
          · have hf := (HI3.out.fin (.string nv) (.slice ua k un) (.slice uwa j uwn)).1
            exact Rd44.mono (Rd44.span (Rd44.span (Own44.rd HO.out) HSP.out) (hf.mono (Nat.le_refl _) hss)) (by omega) (Nat.le_trans hss hf.size)
          · have hf := (HI3.out.fin (.string nv) (.slice ua k un) (.slice uwa j uwn)).1
            exact Rd4.mono (Rd4.span (Own4.rd HO3.out (Nat.le_refl _)) (hf.mono (by omega) (Nat.le_refl _))) (by omega) hf.size
          · exact (HI3.out.fin (.string nv) (.slice ua k un) (.slice uwa j uwn)).2

end Go.Proofs.YtokfiflflcfidabDoor

namespace Go.Proofs.YtokfiflflcfidabDoor
open Go.RowKit

theorem EArr.span {lo hi : Nat} {w w' : World} {b : Nat} {l : List Ev} (h : EArr w b l) (hs : Span lo hi w w') (h1 : lo ≤ b) (h2 : b < hi) : EArr w' b l := by
  refine ⟨Nat.lt_of_lt_of_le h.1 hs.size, fun i hi => ?_⟩
  have e := h.2 i hi
  exact ⟨(hs.cell h1 h2).trans e.wr, (hs.cell h1 h2).trans e.th, (hs.cell h1 h2).trans e.ce, (hs.cell h1 h2).trans e.af, (hs.cell h1 h2).trans e.va, (hs.cell h1 h2).trans e.lo⟩

theorem wrap64 (n : Int) (h0 : 0 ≤ n) (h1 : n < 9223372036854775808) : IntKind.i64.wrap n = n := by
  simp [IntKind.wrap, IntKind.bits, IntKind.signed]
  omega

set_option maxRecDepth 100000 in
set_option maxHeartbeats 16000000 in
theorem built_any (s : ByteArray) (hs : s.size ≤ 9223372036854775807) (g off cap : Nat) (w : World) (hA : Arr w g off (baseL s.data.toList)) (h0 : (rd s.data.toList).1 = 0) (hT : TabN w) (hTR : TabR w) :
    Calls Tryd.prog 12 #[.string s, .slice (some ⟨g, off, none⟩) (baseL s.data.toList).length cap] w fun r w' => ∃ nv ca cn cc wa wn wc g2 c2, r = .returned (.tuple #[.agg #[.string nv, .slice ca cn cc, .slice wa wn wc], .slice (some ⟨g2, 0, none⟩) (ringL s.data.toList).length c2, .bool true]) ∧
      Rd44 w.heap.size w'.heap.size w' (.slice ca cn cc) (codeQ (ringL s.data.toList)) ∧ Rd4 w.heap.size w'.heap.size w' (.slice wa wn wc) (wantQ (ringL s.data.toList)) ∧ EArr w' g2 (eventsL (ringL s.data.toList)) ∧ w.heap.size ≤ g2 ∧ Below w.heap.size w w' := by
  obtain ⟨hR, hlast, h16, hbl, hrl, hE, hpos⟩ := rd_ring h0
  have hL := hR.toLay
  have HSN : Hid _ := built_snd h0
  have hb0 : Below w.heap.size w (w.alloc (.cells #[.string ⟨#[]⟩, .slice none 0 0, .slice none 0 0] 33)) := (Below.refl _ _).alloc (Nat.le_refl _) _
  have hcl : (codeQ (ringL s.data.toList)).length = (ringL s.data.toList).countP lT := by simp [codeQ, codeOf]
  have hTle : (ringL s.data.toList).countP lT ≤ (ringL s.data.toList).length := List.countP_le_length
  have hthr : thrOf (ringL s.data.toList) ((ringL s.data.toList).length - 1) + 1 = (ringL s.data.toList).countP lT := by
    have h1 := thr_succ (ringL s.data.toList) ((ringL s.data.toList).length - 1) (by have := hL.pos; omega)
    have h2 : thrOf (ringL s.data.toList) (ringL s.data.toList).length = (ringL s.data.toList).countP lT := by unfold thrOf; rw [List.take_length]
    rw [show (ringL s.data.toList).length - 1 + 1 = (ringL s.data.toList).length from by have := hL.pos; omega, h2, hlast] at h1
    simp [b1] at h1
    omega
  have hwl : (wantQ (ringL s.data.toList)).length ≤ 1000 := by
    unfold wantQ wantOf
    rw [List.length_map, List.length_append]
    have := wrTo_len (ringL s.data.toList) (ringL s.data.toList).length
    have := wcTo_len (ringL s.data.toList) ((ringL s.data.toList).countP lC)
    have hCle : (ringL s.data.toList).countP lC ≤ (ringL s.data.toList).length := List.countP_le_length
    omega
  have hrowl : ∀ k : Nat, ((codeQ (ringL s.data.toList))[k]?.getD []).length ≤ 1000000000 := by
    intro k
    by_cases hk : k < (ringL s.data.toList).countP lT
    · have h1 := cdTo_len (ringL s.data.toList) k (ringL s.data.toList).length
      simp [codeQ, codeOf, hk]
      omega
    · simp [codeQ, codeOf, hk]
  have hC0 : 0 < (baseL s.data.toList).countP lC := by
    have h1 := ring_count lC (baseL s.data.toList) (by omega)
    rw [← h1]
    exact hL.some
  have hevs : eventsOf (baseL s.data.toList) = eventsL (ringL s.data.toList) := rfl
  have hevl := events_length (ringL s.data.toList)
  have hbr : (baseL s.data.toList).length = (ringL s.data.toList).length := by omega
  rw [hbr]
  have H0 : Hid _ := h0
  have HT : Hid _ := hT
  have HTR : Hid _ := hTR
  have HBL : Hid _ := hbl
  have HRLN : Hid _ := hrl
  have HEVL : Hid _ := hevl
  have HCL : Hid _ := hcl
  have HTHR : Hid _ := hthr
  have HBR : Hid _ := hbr
  have HEVS : Hid _ := hevs
  have hl0 := hL.pos
  have hbp : 0 < (baseL s.data.toList).length := by omega
  have hb64 : (baseL s.data.toList).length ≤ 64 := by omega
  clear hbl hrl hevl hcl hthr hbr hevs h0
  go_enter Tryd.func12, Tryd.ntmps12
  go_wp2_with fail
  refine (build_any s hs _ (hT.kept hb0)).mono ?_
  rintro r w1 ⟨nv, cv, wv, rfl, hyes, _, hb1⟩
  obtain ⟨hnv, hC1, hW1⟩ := hyes H0.out
  rw [H0.out]
  have hs1 : w.heap.size + 1 ≤ w1.heap.size := by have := hb1.size; simpa using this
  have hBR1 : Below (w.heap.size + 1) (w.alloc (.cells #[.string ⟨#[]⟩, .slice none 0 0, .slice none 0 0] 33)) w1 := hb1.mono (by simp)
  obtain ⟨ca, cc, hcv, hC1'⟩ := hC1
  obtain ⟨wa, wc, hwv, hW1'⟩ := hW1
  obtain ⟨n3, hn3⟩ : ∃ n3, n3 = (codeQ (ringL s.data.toList)).length := ⟨_, rfl⟩
  obtain ⟨n4, hn4⟩ : ∃ n4, n4 = (wantQ (ringL s.data.toList)).length := ⟨_, rfl⟩
  rw [← hn3] at hcv
  rw [← hn4] at hwv
  subst hcv
  subst hwv
  have HN3 : Hid _ := hn3
  have HN4 : Hid _ := hn4
  have HNV : Hid _ := hnv
  have HN3c : Hid (n3 = (ringL s.data.toList).countP lT) := by show _ = _; rw [HN3.out, HCL.out]
  have hn3b : n3 ≤ 1000 := by have := HN3c.out; omega
  clear hn3 hn4 hnv
  have hbt : Below w1.heap.size w1 (w1.alloc (.cells #[.string nv, .slice ca n3 cc, .slice wa n4 wc] 52)) := (Below.refl _ _).alloc (Nat.le_refl _) _
  have hC2 : Rd44 (w.alloc (.cells #[.string ⟨#[]⟩, .slice none 0 0, .slice none 0 0] 33)).heap.size w1.heap.size (w1.alloc (.cells #[.string nv, .slice ca n3 cc, .slice wa n4 wc] 52)) (.slice ca n3 cc) (codeQ (ringL s.data.toList)) :=
    Rd44.span (w := w1) ⟨ca, cc, by rw [HN3.out], hC1'⟩ (Span.of_below hbt (Nat.le_refl _))
  have hW2 : Rd4 (w.alloc (.cells #[.string ⟨#[]⟩, .slice none 0 0, .slice none 0 0] 33)).heap.size w1.heap.size (w1.alloc (.cells #[.string nv, .slice ca n3 cc, .slice wa n4 wc] 52)) (.slice wa n4 wc) (wantQ (ringL s.data.toList)) :=
    Rd4.span (w := w1) ⟨wa, wc, by rw [HN4.out], hW1'⟩ (Span.of_below hbt (Nat.le_refl _))
  have hgiv := given_any nv (.slice ca n3 cc) (.slice wa n4 wc) (codeQ (ringL s.data.toList)) (wantQ (ringL s.data.toList)) _ _ _ hC2 hW2 (by simp) (by rw [HCL.out]; omega) hrowl (by omega)
  have hBR2 : Below (w.heap.size + 1) (w.alloc (.cells #[.string ⟨#[]⟩, .slice none 0 0, .slice none 0 0] 33)) (w1.alloc (.cells #[.string nv, .slice ca n3 cc, .slice wa n4 wc] 52)) := hBR1.trans (hbt.mono hs1)
  have HBR2 : Hid _ := hBR2
  have hb01 : Below w.heap.size w w1 := hb0.trans (hBR1.mono (by omega))
  clear hyes hC1' hW1' hC2 hW2 hbt hBR1 hBR2 hb1
  go_wp2_with fail
  refine Calls.mono hgiv ?_
  rintro r w2 ⟨cv2, wv2, rfl, hC3, hW3, hb2⟩
  obtain ⟨ca2, cc2, hcv2, hC3'⟩ := hC3
  obtain ⟨wa2, wc2, hwv2, hW3'⟩ := hW3
  rw [← HN3.out] at hcv2
  rw [← HN4.out] at hwv2
  subst hcv2
  subst hwv2
  have hs2 : w1.heap.size + 1 ≤ w2.heap.size := by have := hb2.size; simpa using this
  have hC4 : Rd44 (w1.alloc (.cells #[.string nv, .slice ca n3 cc, .slice wa n4 wc] 52)).heap.size w2.heap.size w2 (.slice ca2 n3 cc2) (codeQ (ringL s.data.toList)) := ⟨ca2, cc2, by rw [HN3.out], hC3'⟩
  have hW4 : Rd4 (w1.alloc (.cells #[.string nv, .slice ca n3 cc, .slice wa n4 wc] 52)).heap.size w2.heap.size w2 (.slice wa2 n4 wc2) (wantQ (ringL s.data.toList)) := ⟨wa2, wc2, by rw [HN4.out], hW3'⟩
  have hbu : Below w2.heap.size w2 (w2.alloc (.cells #[.string nv, .slice ca2 n3 cc2, .slice wa2 n4 wc2] 33)) := (Below.refl _ _).alloc (Nat.le_refl _) _
  have hBR3 : Below (w.heap.size + 1) (w.alloc (.cells #[.string ⟨#[]⟩, .slice none 0 0, .slice none 0 0] 33)) (w2.alloc (.cells #[.string nv, .slice ca2 n3 cc2, .slice wa2 n4 wc2] 33)) := (HBR2.out.trans (hb2.mono (by simp; omega))).trans (hbu.mono (by omega))
  have hb3 : Below w.heap.size w (w2.alloc (.cells #[.string nv, .slice ca2 n3 cc2, .slice wa2 n4 wc2] 33)) := hb0.trans (hBR3.mono (by omega))
  have hev := events_any (baseL s.data.toList) g off cap _ (hA.kept hb3) hE hbp hb64 (hTR.kept hb3) hC0
  rw [HEVS.out, HBR.out] at hev
  have HEV : Hid _ := hev
  have HBR3 : Hid _ := hBR3
  have HC4 : Hid _ := hC4
  have HW4 : Hid _ := hW4
  clear hev hBR3 hC4 hW4 hC3' hW3' hb3 hbu hgiv HBR2 hb2
  go_wp2_with fail
  refine Calls.mono HEV.out ?_
  rintro r w3 ⟨v3, rfl, hown3, hb3⟩
  obtain ⟨g2, c2, hv3, hg2, hEA⟩ := hown3.shape (by rw [HEVL.out]; exact hl0)
  rw [HEVL.out] at hv3
  subst hv3
  have hs3 : w2.heap.size + 1 ≤ w3.heap.size := by have := hb3.size; simpa using this
  have hg2' : w2.heap.size + 1 ≤ g2 := by simpa using hg2
  have hgl3 : g2 < w3.heap.size := hEA.1
  have hU : w3.heap[w2.heap.size]? = some (.cells #[.string nv, .slice ca2 n3 cc2, .slice wa2 n4 wc2] 33 (0, 0)) := (hb3.block _ (by simp)).trans (heap_alloc_new w2 _)
  have hBR4 : Below (w.heap.size + 1) (w.alloc (.cells #[.string ⟨#[]⟩, .slice none 0 0, .slice none 0 0] 33)) w3 := HBR3.out.trans (hb3.mono (by simp; omega))
  have hth := (hEA.at (i := (ringL s.data.toList).length - 1) (by rw [HEVL.out]; omega)).th
  rw [ev_stat (ringL s.data.toList) hL _ (by omega)] at hth
  have hsp23 : Span 0 w2.heap.size w2 w3 := (Span.of_below ((Below.refl w2.heap.size w2).alloc (Nat.le_refl _) (.cells #[.string nv, .slice ca2 n3 cc2, .slice wa2 n4 wc2] 33)) (Nat.le_refl _)).trans (Span.of_below hb3 (by simp))
  have hC5 := Rd44.span HC4.out (hsp23.mono (Nat.zero_le _) (Nat.le_refl _))
  have hW5 := Rd4.span HW4.out (hsp23.mono (Nat.zero_le _) (Nat.le_refl _))
  have hnvs : nv.size ≤ 9223372036854775807 := by rw [HNV.out]; have := txTo_length (baseL s.data.toList) (baseL s.data.toList).length; simp [ByteArray.size, tx]; have h9 := hb64; omega
  have hsnd := sound_any nv (.slice ca2 n3 cc2) (.slice wa2 n4 wc2) _ _ _ _ w3.drew (Rd44.span hC5 (Span.of_below (below_drewN (Below.refl w3.heap.size w3) 1) (by omega))) (Rd4.span hW5 (Span.of_below (below_drewN (Below.refl w3.heap.size w3) 1) (by omega))) (by show w2.heap.size ≤ w3.heap.size; omega) hnvs
  have hnm : nv.data.toList = tx (baseL s.data.toList) := by rw [HNV.out]
  rw [hnm, HSN.out] at hsnd
  have HSND : Hid _ := hsnd
  have u0 : w3.cell? ⟨w2.heap.size, 0, none⟩ = some (.string nv) := by rw [cell_of_row _ _ 0 _ _ _ hU]; rfl
  have u1 : w3.cell? ⟨w2.heap.size, 1, none⟩ = some (.slice ca2 n3 cc2) := by rw [cell_of_row _ _ 1 _ _ _ hU]; rfl
  have u2 : w3.cell? ⟨w2.heap.size, 2, none⟩ = some (.slice wa2 n4 wc2) := by rw [cell_of_row _ _ 2 _ _ _ hU]; rfl
  have hli : ((ringL s.data.toList).length : Int) - 1 = (((ringL s.data.toList).length - 1 : Nat) : Int) := by omega
  have hlit : (((ringL s.data.toList).length : Int) - 1).toNat = (ringL s.data.toList).length - 1 := by omega
  have hfin4 : ((n3 : Int) == ((thrOf (ringL s.data.toList) ((ringL s.data.toList).length - 1) : Nat) : Int) + 1) = true := by rw [beq_iff_eq]; have h1 := HN3c.out; have h2 := HTHR.out; omega
  have HU : Hid _ := hU
  have HBR4 : Hid _ := hBR4
  have HC5 : Hid _ := hC5
  have HW5 : Hid _ := hW5
  have HEA : Hid _ := hEA
  have hthl : thrOf (ringL s.data.toList) ((ringL s.data.toList).length - 1) ≤ 100 := by have h2 := HTHR.out; omega
  dsimp only at hth
  have HWR : Hid ((n3 : Int) = IntKind.i64.wrap (((thrOf (ringL s.data.toList) ((ringL s.data.toList).length - 1) : Nat) : Int) + 1)) := by
    show _ = _
    rw [wrap64 _ (by omega) (by omega)]
    have h1 := HN3c.out
    have h2 := HTHR.out
    omega
  generalize thrOf (ringL s.data.toList) ((ringL s.data.toList).length - 1) = tl at *
  have HFIN : Hid (∀ w5, Below w3.heap.size w3 w5 → ∀ W, W = (((w5.setCell ⟨w.heap.size, 0, none⟩ (.string nv)).setCell ⟨w.heap.size, 1, none⟩ (.slice ca2 n3 cc2)).setCell ⟨w.heap.size, 2, none⟩ (.slice wa2 n4 wc2)) → Rd44 w.heap.size W.heap.size W (.slice ca2 n3 cc2) (codeQ (ringL s.data.toList)) ∧ Rd4 w.heap.size W.heap.size W (.slice wa2 n4 wc2) (wantQ (ringL s.data.toList)) ∧ EArr W g2 (eventsL (ringL s.data.toList)) ∧ w.heap.size ≤ g2 ∧ Below w.heap.size w W) := by
    intro w5 hb5 W hW
    subst hW
    have hs5 := hb5.size
    obtain ⟨hF1, hF2, _⟩ := fin3 (hBR4.trans (hb5.mono (by omega))) (B := w.heap.size + 1) (Nat.le_refl _) (.string nv) (.slice ca2 n3 cc2) (.slice wa2 n4 wc2)
    have hsz := hF1.size
    have hlo : w.heap.size + 1 ≤ (w1.alloc (.cells #[.string nv, .slice ca n3 cc, .slice wa n4 wc] 52)).heap.size := by rw [World.size_alloc]; omega
    exact ⟨Rd44.mono (Rd44.span (Rd44.span hC5 (Span.of_below hb5 (by omega))) (hF1.mono hlo (by omega))) (Nat.le_trans (by omega) hlo) (Nat.le_trans (by omega) hsz),
      Rd4.mono (Rd4.span (Rd4.span hW5 (Span.of_below hb5 (by omega))) (hF1.mono hlo (by omega))) (Nat.le_trans (by omega) hlo) (Nat.le_trans (by omega) hsz),
      EArr.span (EArr.span hEA (Span.of_below (lo := 0) hb5 (Nat.le_refl _)) (Nat.zero_le _) hgl3) hF1 (by omega) (by omega), by omega, hF2⟩
  clear hown3 hb3 hU hBR4 hC5 hW5 hsnd hEA hsp23 HEV HC4 HW4 HBR3 hnm
  clear hR hL hlast hpos hE hTle hwl hrowl hC0 hs hA hT hTR HT HTR HSN hnvs
  go_wp2
  go_region_with (first | (go_at_call 11; refine (num_any _ _).mono ?_; rintro r w6 ⟨rfl, rfl⟩) | (go_at_call 33; refine Calls.mono HSND.out ?_; rintro r w5 ⟨rfl, hb5⟩; have y0 := (hb5.cell (p := ⟨w2.heap.size, 0, none⟩) (by show w2.heap.size < w3.heap.size; omega)).trans u0; have y1 := (hb5.cell (p := ⟨w2.heap.size, 1, none⟩) (by show w2.heap.size < w3.heap.size; omega)).trans u1; have y2 := (hb5.cell (p := ⟨w2.heap.size, 2, none⟩) (by show w2.heap.size < w3.heap.size; omega)).trans u2; have HB5 : Hid (Below w3.heap.size w3 w5) := (below_drewN (Below.refl w3.heap.size w3) 1).trans hb5; obtain ⟨hF1, hF2, r0, r1, r2, f0, f1, f2⟩ := fin3 (HBR4.out.trans (HB5.out.mono (by omega))) (B := w.heap.size + 1) (Nat.le_refl _) (.string nv) (.slice ca2 n3 cc2) (.slice wa2 n4 wc2); clear hF1 hF2 hb5))
  all_goals go_wp2
  all_goals refine bodyPost_ret (v := .tuple #[.agg #[.string nv, .slice ca2 n3 cc2, .slice wa2 n4 wc2], .slice (some ⟨g2, 0, none⟩) (ringL s.data.toList).length c2, .bool true]) (by simp [results, Tryd.results12, go_sem, r0, r1, r2]; exact HWR.out) rfl ⟨nv, ca2, n3, cc2, wa2, n4, wc2, g2, c2, rfl, HFIN.out _ HB5.out _ rfl⟩

end Go.Proofs.YtokfiflflcfidabDoor
