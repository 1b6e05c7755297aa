import Derived.Test.YtokfiflflcfidabRows
import Derived.Test.YtokfiflflcfidabPlain
import Derived.Test.YtokfiflflcfidabMem
import Derived.Test.YtokfiflflcfidabMemQ
import Derived.Test.YtokfiflflcfidabMachM
import Derived.WalkKit
import Derived.WalkSpells
import Derived.WalkLawsBesides
import Derived.Deep.QuietTactic
import Derived.BigQuiet
namespace Go.Proofs.Ytokfiflflcfidab
open Go.RowKit

theorem Try.infoRIns : (Try.prog.info? 44).map (fun i => (i.zero, i.size, i.bytes)) = some (some (.agg #[.int .i64 0, .int .i64 0, .int .i64 0, .int .i64 0]), 4, 32) := by kernel_rfl
theorem Try.infoRInss : (Try.prog.info? 45).map (fun i => (i.zero, i.size, i.bytes)) = some (some (.slice none 0 0), 1, 24) := by kernel_rfl
theorem Try.infoRClaim : (Try.prog.info? 55).map (fun i => (i.zero, i.size, i.bytes)) = some (some (.agg #[.int .i64 0, .int .i64 0, .int .i64 0, .int .i64 0]), 4, 32) := by kernel_rfl

/-- the test that is read: at w.heap.size; the answer, behind it; and the test that is being made -/
structure GInv (TT TU : Nat) (w wr : World) (nv : ByteArray) (cv wv uc uw : Value) : Prop where
  below : Below w.heap.size w wr
  sz : w.heap.size + 3 ≤ wr.heap.size
  hT : wr.heap[w.heap.size]? = some (.cells #[.string nv, cv, wv] TT (0, 0))
  hR : wr.heap[w.heap.size + 1]? = some (.cells #[.string ⟨#[]⟩, .slice none 0 0, .slice none 0 0] TU (0, 0))
  hU : wr.heap[w.heap.size + 1 + 1]? = some (.cells #[.string nv, uc, uw] TU (0, 0))
theorem GInv.init (TT TU : Nat) (w : World) (nv : ByteArray) (cv wv : Value) : GInv TT TU w (((w.alloc (.cells #[.string nv, cv, wv] TT)).alloc (.cells #[.string ⟨#[]⟩, .slice none 0 0, .slice none 0 0] TU)).alloc (.cells #[.string nv, .slice none 0 0, .slice none 0 0] TU)) nv cv wv (.slice none 0 0) (.slice none 0 0) where
  below := (((Below.refl _ _).alloc (Nat.le_refl _) _).alloc (by simp) _).alloc (by simp; omega) _
  sz := by simp
  hT := (Below.heap_alloc _ _ _ (by simp; omega)).trans ((Below.heap_alloc _ _ _ (by simp)).trans (heap_alloc_new w _))
  hR := by
    have h1 := heap_alloc_new (w.alloc (.cells #[.string nv, cv, wv] TT)) (.cells #[.string ⟨#[]⟩, .slice none 0 0, .slice none 0 0] TU)
    simp only [World.size_alloc] at h1
    exact (Below.heap_alloc _ _ _ (by simp)).trans h1
  hU := by
    have h1 := heap_alloc_new ((w.alloc (.cells #[.string nv, cv, wv] TT)).alloc (.cells #[.string ⟨#[]⟩, .slice none 0 0, .slice none 0 0] TU)) (.cells #[.string nv, .slice none 0 0, .slice none 0 0] TU)
    simp only [World.size_alloc] at h1
    exact h1
section
variable {TT TU : Nat} {w wr : World} {nv : ByteArray} {cv wv uc uw : Value}
theorem GInv.t1 (h : GInv TT TU w wr nv cv wv uc uw) : wr.cell? ⟨w.heap.size, 1, none⟩ = some cv := by rw [cell_of_row _ _ 1 _ _ _ h.hT]; rfl
theorem GInv.t2 (h : GInv TT TU w wr nv cv wv uc uw) : wr.cell? ⟨w.heap.size, 2, none⟩ = some wv := by rw [cell_of_row _ _ 2 _ _ _ h.hT]; rfl
theorem GInv.u0 (h : GInv TT TU w wr nv cv wv uc uw) : wr.cell? ⟨w.heap.size + 1 + 1, 0, none⟩ = some (.string nv) := by rw [cell_of_row _ _ 0 _ _ _ h.hU]; rfl
theorem GInv.u1 (h : GInv TT TU w wr nv cv wv uc uw) : wr.cell? ⟨w.heap.size + 1 + 1, 1, none⟩ = some uc := by rw [cell_of_row _ _ 1 _ _ _ h.hU]; rfl
theorem GInv.u2 (h : GInv TT TU w wr nv cv wv uc uw) : wr.cell? ⟨w.heap.size + 1 + 1, 2, none⟩ = some uw := by rw [cell_of_row _ _ 2 _ _ _ h.hU]; rfl
theorem GInv.free (h : GInv TT TU w wr nv cv wv uc uw) (o : Nat) : wr.frozen? ⟨w.heap.size + 1 + 1, o, none⟩ = false := frozen_of_row wr _ o _ TU h.hU
theorem GInv.freeR (h : GInv TT TU w wr nv cv wv uc uw) (o : Nat) : wr.frozen? ⟨w.heap.size + 1, o, none⟩ = false := frozen_of_row wr _ o _ TU h.hR
theorem GInv.r (h : GInv TT TU w wr nv cv wv uc uw) : wr.cell? ⟨w.heap.size + 1, 0, none⟩ = some (.string ⟨#[]⟩) ∧ wr.cell? ⟨w.heap.size + 1, 1, none⟩ = some (.slice none 0 0) ∧ wr.cell? ⟨w.heap.size + 1, 2, none⟩ = some (.slice none 0 0) := by
  refine ⟨?_, ?_, ?_⟩ <;> rw [cell_of_row _ _ _ _ _ _ h.hR] <;> rfl
theorem GInv.span (h : GInv TT TU w wr nv cv wv uc uw) {w' : World} (hb : Below w.heap.size wr w') (hs : Span w.heap.size (w.heap.size + 3) wr w') : GInv TT TU w w' nv cv wv uc uw where
  below := h.below.trans hb
  sz := by have := h.sz; have := hs.size; omega
  hT := by rw [hs.block _ (by omega) (by omega)]; exact h.hT
  hR := by rw [hs.block _ (by omega) (by omega)]; exact h.hR
  hU := by rw [hs.block _ (by omega) (by omega)]; exact h.hU
theorem GInv.kept (h : GInv TT TU w wr nv cv wv uc uw) {w' : World} {B : Nat} (hb : Below B wr w') (hB : w.heap.size + 3 ≤ B) : GInv TT TU w w' nv cv wv uc uw :=
  h.span (hb.mono (by omega)) (Span.of_below hb hB)
theorem GInv.grew (h : GInv TT TU w wr nv cv wv uc uw) {w' : World} {v v' : Value} (hg : Grew wr w' v v') (hv : ∀ k, v.ownBlock = some k → w.heap.size + 3 ≤ k) : GInv TT TU w w' nv cv wv uc uw := by
  have hsz := h.sz
  refine h.span ⟨hg.1.os, hg.1.tape, hg.1.output, hg.size, fun k hk => ?_⟩ ⟨hg.size, fun k h1 h2 => ?_⟩
  · exact hg.block (by omega) (fun e => by have := hv k e; omega)
  · exact hg.block (by omega) (fun e => by have := hv k e; omega)
theorem GInv.set1 (h : GInv TT TU w wr nv cv wv uc uw) (u : Value) : GInv TT TU w (wr.setCell ⟨w.heap.size + 1 + 1, 1, none⟩ u) nv cv wv u uw where
  below := h.below.setCell (by dsimp only; omega) u
  sz := by have := h.sz; simpa [World.setCell] using this
  hT := by rw [heap_setCell_other _ _ _ _ (by dsimp only; omega)]; exact h.hT
  hR := by rw [heap_setCell_other _ _ _ _ (by dsimp only; omega)]; exact h.hR
  hU := heap_setCell_same wr _ 1 _ _ u h.hU
theorem GInv.set2 (h : GInv TT TU w wr nv cv wv uc uw) (u : Value) : GInv TT TU w (wr.setCell ⟨w.heap.size + 1 + 1, 2, none⟩ u) nv cv wv uc u where
  below := h.below.setCell (by dsimp only; omega) u
  sz := by have := h.sz; simpa [World.setCell] using this
  hT := by rw [heap_setCell_other _ _ _ _ (by dsimp only; omega)]; exact h.hT
  hR := by rw [heap_setCell_other _ _ _ _ (by dsimp only; omega)]; exact h.hR
  hU := heap_setCell_same wr _ 2 _ _ u h.hU
theorem GInv.fin (h : GInv TT TU w wr nv cv wv uc uw) (a b c : Value) : Span (w.heap.size + 3) wr.heap.size wr (((wr.setCell ⟨w.heap.size + 1, 0, none⟩ a).setCell ⟨w.heap.size + 1, 1, none⟩ b).setCell ⟨w.heap.size + 1, 2, none⟩ c) ∧ Below w.heap.size w (((wr.setCell ⟨w.heap.size + 1, 0, none⟩ a).setCell ⟨w.heap.size + 1, 1, none⟩ b).setCell ⟨w.heap.size + 1, 2, none⟩ c) :=
  ⟨(((Span.refl _ _ wr).set (Or.inl (by omega)) _).set (Or.inl (by omega)) _).set (Or.inl (by omega)) _, ((h.below.setCell (by dsimp only; omega) _).setCell (by dsimp only; omega) _).setCell (by dsimp only; omega) _⟩
end

theorem take_snocQ (l : List Q4) (n : Nat) (h : n < l.length) : l.take (n + 1) = l.take n ++ [l[n]?.getD q0] := by
  rw [List.take_succ_eq_append_getElem h]; simp [h]
theorem take_snocQQ (l : List (List Q4)) (n : Nat) (h : n < l.length) : l.take (n + 1) = l.take n ++ [l[n]?.getD []] := by
  rw [List.take_succ_eq_append_getElem h]; simp [h]

set_option maxRecDepth 100000 in
set_option maxHeartbeats 1600000 in
theorem given_any (nv : ByteArray) (cv wv : Value) (code : List (List Q4)) (want : List Q4) (lo hi : Nat) (w : World) (hC : Rd44 lo hi w cv code) (hW : Rd4 lo hi w wv want) (hhi : hi ≤ w.heap.size)
    (b1 : code.length ≤ 1000000000) (b2 : ∀ k : Nat, (code[k]?.getD []).length ≤ 1000000000) (b3 : want.length ≤ 1000000000) :
    Calls Try.prog 16 #[.agg #[.string nv, cv, wv]] w fun r w' => ∃ cv' wv', r = .returned (.agg #[.string nv, cv', wv']) ∧ Rd44 w.heap.size w'.heap.size w' cv' code ∧ Rd4 w.heap.size w'.heap.size w' wv' want ∧ Below w.heap.size w w' := by
  obtain ⟨ca, cc, rfl, hC⟩ := hC
  obtain ⟨wa, wc, rfl, hW⟩ := hW
  have HC : Hid _ := hC
  have HW : Hid _ := hW
  have HB2 : Hid _ := b2
  clear hC hW b2
  go_enter Try.func16, Try.ntmps16
  go_wp2
  go_loopw [4] (fun i wr => ∃ (k : Nat) (uc : Value), k ≤ code.length ∧ i = .int .i64 k ∧ GInv 31 25 w wr nv (.slice ca code.length cc) (.slice wa want.length wc) uc (.slice none 0 0) ∧ Own44 wr (w.heap.size + 3) 45 uc (code.take k)) (fun i _ => code.length - (intOf i).toNat)
  case atStart =>
    exact ⟨0, .slice none 0 0, Nat.zero_le _, rfl, GInv.init _ _ _ _ _ _, Own44.nil _ _ _⟩
  case round =>
    rename World => wo
    obtain ⟨k, uc, hk, rfl, hI, hown⟩ := hrel
    have ht1 := hI.t1
    have ht2 := hI.t2
    have hsz := hI.sz
    have hbl := hI.below
    obtain ⟨ua, un, hul⟩ := hown.len
    rw [List.length_take, Nat.min_eq_left hk] at hul
    subst hul
    have hu1 := hI.u1
    have HI : Hid _ := hI
    have HO : Hid _ := hown
    have hB0 : w.heap.size < wo.heap.size := by omega
    have hB2 : w.heap.size + 1 + 1 < wo.heap.size := by omega
    by_cases hlt : k < code.length
    · obtain ⟨cb, co, vk, rfl, hcl, hch, hcell, hrow⟩ := HC.out k hlt
      have hcb : cb < w.heap.size := by omega
      obtain ⟨ra, rc, rfl, hrow⟩ := hrow
      have HROW : Hid _ := hrow
      have hck := (hbl.cell (p := ⟨cb, co + k, none⟩) hcb).trans hcell
      have hrl := HB2.out k
      have HS : Hid _ := take_snocQQ code k hlt
      clear hrow hcell hI hown hbl
      generalize code[k]?.getD [] = row at *
      go_wp2
      go_loopw [5, 6] (fun v i wr => ∃ j : Nat, j ≤ row.length ∧ i = .int .i64 j ∧ Own4 wr wo.heap.size 44 v (row.take j) ∧ Below wo.heap.size wo wr) (fun _ i _ => row.length - (intOf i).toNat)
      case atStart => exact ⟨0, Nat.zero_le _, rfl, Own4.nil _ _ _, Below.refl _ _⟩
      case round =>
        obtain ⟨j, hj, rfl, hown4, hbi⟩ := hrel
        have g1 := (hbi.cell (p := ⟨w.heap.size, 1, none⟩) hB0).trans ht1
        have g2 := (hbi.cell (p := ⟨cb, co + k, none⟩) (by dsimp only; omega)).trans hck
        have hsi := hbi.size
        have hcbw : cb < wr.heap.size := by omega
        have hB0i : w.heap.size < wr.heap.size := by omega
        have HBI : Hid _ := hbi
        have HO4 : Hid _ := hown4
        clear ht1 hck hbi hown4
        by_cases hjl : j < row.length
        · obtain ⟨rb, ro, rfl, hrlo, hrhi, hat⟩ := HROW.out j hjl
          have hrbo : rb < wo.heap.size := by omega
          have hrbw : rb < w.heap.size := by omega
          have x0 := ((HBI.out.cell (p := ⟨rb, ro + j * 4, none⟩) hrbo).trans ((HI.out.below.cell (p := ⟨rb, ro + j * 4, none⟩) hrbw).trans hat.f0))
          have x1 := ((HBI.out.cell (p := ⟨rb, ro + j * 4 + 1, none⟩) hrbo).trans ((HI.out.below.cell (p := ⟨rb, ro + j * 4 + 1, none⟩) hrbw).trans hat.f1))
          have x2 := ((HBI.out.cell (p := ⟨rb, ro + j * 4 + 2, none⟩) hrbo).trans ((HI.out.below.cell (p := ⟨rb, ro + j * 4 + 2, none⟩) hrbw).trans hat.f2))
          have x3 := ((HBI.out.cell (p := ⟨rb, ro + j * 4 + 3, none⟩) hrbo).trans ((HI.out.below.cell (p := ⟨rb, ro + j * 4 + 3, none⟩) hrbw).trans hat.f3))
          have HSJ : Hid _ := take_snocQ row j hjl
          have hlj : (row.take j).length ≤ 1000000000000 := by rw [List.length_take]; omega
          clear hat
          generalize row[j]?.getD q0 = x at *
          go_wp2_with (at_builtin; go_must (refine wpList_push4 rfl _ _ 45 rfl wo.heap.size 44 Try.underlying45 Try.infoRIns _ _ x (by rfl) (by simp [Act.eval]) (HO4.out.alloc _) hlj (by simp; omega) ?_); intro v' w1 hown1 hg1; clear x0 x1 x2 x3 g1 g2)
          go_roundw
          case rel => exact ⟨j + 1, by omega, by go_num, by rw [HSJ.out]; exact hown1, hg1.below (HBI.out.alloc (by omega) _) (by simp; omega) (HO4.out.alloc _)⟩
          case measure => simp [intOf]; omega
        · have hje : row.take j = row := List.take_of_length_le (by omega)
          obtain ⟨va, vc, hva⟩ := Own4.len HO4.out
          rw [hje] at hva
          subst hva
          have HO5 : Hid _ := HO4.out
          rw [hje] at HO5
          have hO44 := Own44.span HO.out (Span.of_below (lo := 0) HBI.out (Nat.le_refl _)) (Nat.zero_le _) (Nat.le_refl _)
          have hIr := HI.out.kept HBI.out hsz
          have hu1r := hIr.u1
          have hkl : (code.take k).length ≤ 1000000000000 := by rw [List.length_take]; omega
          have HIR : Hid _ := hIr
          have HO44 : Hid _ := hO44
          have hB2r : w.heap.size + 1 + 1 < wr.heap.size := by omega
          clear hIr hO44 hu1 hje
          go_wp2_with (at_builtin; go_must (refine wpList_push44 rfl _ _ 22 rfl (w.heap.size + 3) 45 Try.underlying22 Try.infoRInss _ (code.take k) row _ wo.heap.size 44 HO5.out hsz (fun b hb => (Own44.lt HO.out hb).2) (by rfl) (by rfl) HO44.out hkl (by omega) ?_); intro v' w2 hown2 hg2; obtain ⟨a', c', hv'⟩ := Own44.len hown2; rw [← HS.out, List.length_take, Nat.min_eq_left hlt] at hv'; subst hv'; have hI2 := HIR.out.grew hg2 (fun b hb => (Own44.lt HO.out hb).1); have s3 := hI2.u1; have s4 := hI2.free 1; have HI2 : Hid _ := hI2; have HOW2 : Hid _ := hown2; clear hown2 hI2 hg2 hu1r g1 g2)
          go_roundw
          case rel => exact ⟨k + 1, _, by omega, by go_num, HI2.out.set1 _, by rw [HS.out]; exact Own44.span HOW2.out ((Span.refl (w.heap.size + 3) w2.heap.size w2).set (Or.inl (by omega)) _) (Nat.le_refl _) (Nat.le_refl _)⟩
          case measure => simp [intOf]; omega
    · have hke : code.take k = code := List.take_of_length_le (by omega)
      rw [hke] at HO
      have HU : Hid _ := HI.out
      clear hI hown hu1
      go_wp2
      go_loopw [8] (fun i wr => ∃ (j : Nat) (uw : Value), j ≤ want.length ∧ i = .int .i64 j ∧ GInv 31 25 w wr nv (.slice ca code.length cc) (.slice wa want.length wc) (.slice ua k un) uw ∧ Own4 wr wo.heap.size 55 uw (want.take j) ∧ Span (w.heap.size + 3) wo.heap.size wo wr) (fun i _ => want.length - (intOf i).toNat)
      case atStart => exact ⟨0, .slice none 0 0, Nat.zero_le _, rfl, HI.out, Own4.nil _ _ _, Span.refl _ _ _⟩
      case round =>
        obtain ⟨j, uw, hj, rfl, hI3, hown3, hsp⟩ := hrel
        obtain ⟨uwa, uwn, hul⟩ := hown3.len
        rw [List.length_take, Nat.min_eq_left hj] at hul
        subst hul
        have g2 := hI3.t2
        have g3 := hI3.u2
        have hss := hsp.size
        have HI3 : Hid _ := hI3
        have HO3 : Hid _ := hown3
        have HSP : Hid _ := hsp
        have hB0i : w.heap.size < wr.heap.size := by omega
        have hB2i : w.heap.size + 1 + 1 < wr.heap.size := by omega
        clear ht2
        by_cases hjl : j < want.length
        · obtain ⟨rb, ro, rfl, hrlo, hrhi, hat⟩ := HW.out j hjl
          have hrbw : rb < w.heap.size := by omega
          have hrbr : rb < wr.heap.size := by omega
          have x0 := (hI3.below.cell (p := ⟨rb, ro + j * 4, none⟩) hrbw).trans hat.f0
          have x1 := (hI3.below.cell (p := ⟨rb, ro + j * 4 + 1, none⟩) hrbw).trans hat.f1
          have x2 := (hI3.below.cell (p := ⟨rb, ro + j * 4 + 2, none⟩) hrbw).trans hat.f2
          have x3 := (hI3.below.cell (p := ⟨rb, ro + j * 4 + 3, none⟩) hrbw).trans hat.f3
          have HSJ : Hid _ := take_snocQ want j hjl
          have hlj : (want.take j).length ≤ 1000000000000 := by rw [List.length_take]; omega
          clear hat hI3 hown3 hsp
          generalize want[j]?.getD q0 = x at *
          have hbn : ¬ (w.heap.size + 1 + 1 = wr.heap.size) := by omega
          go_wp2_with (at_builtin; go_must (refine wpList_push4 rfl _ _ 23 rfl wo.heap.size 55 Try.underlying23 Try.infoRClaim _ _ x (by rfl) (by simp [Act.eval]) (HO3.out.alloc _) hlj (by simp; omega) ?_); intro v' w2 hown2 hg2; obtain ⟨a', c', hv'⟩ := Own4.len hown2; rw [← HSJ.out, List.length_take, Nat.min_eq_left hjl] at hv'; subst hv'; have hI4 := (HI3.out.kept ((Below.refl wr.heap.size wr).alloc (Nat.le_refl _) _) (by omega)).grew hg2 (fun b hb => by have := (HO3.out.lt b hb).1; omega); have s3 := hI4.u2; have s4 := hI4.free 2; have HI4 : Hid _ := hI4; have HOW2 : Hid _ := hown2; have HG2 : Hid _ := hg2; clear hown2 hI4 hg2 g2 g3 x0 x1 x2 x3)
          go_roundw
          case rel => exact ⟨j + 1, _, by omega, by go_num, HI4.out.set2 _, by rw [HSJ.out]; exact ownsRow_span HOW2.out ((Span.refl wo.heap.size w2.heap.size w2).set (Or.inl (by omega)) _) (Nat.le_refl _) (Nat.le_refl _), ((HSP.out.alloc hss _).grew HG2.out (by simp; omega) (fun b hb => Or.inr (HO3.out.lt b hb).1)).set (Or.inl (by omega)) _⟩
          case measure => simp [intOf]; omega
        · have hje : want.take j = want := List.take_of_length_le (by omega)
          rw [hje] at HO3
          have u0 := hI3.u0
          have u1 := hI3.u1
          have f0 := hI3.freeR 0
          have f1 := hI3.freeR 1
          have f2 := hI3.freeR 2
          obtain ⟨r0, r1, r2⟩ := hI3.r
          have hR1 : w.heap.size + 1 < wr.heap.size := by omega
          clear hI3 hown3 hsp hje
          go_wp2
          refine bodyPost_ret (v := .agg #[.string nv, .slice ua k un, .slice uwa j uwn]) (by simp [results, Try.results16, go_sem, r0, r1, r2]) rfl ⟨_, _, rfl, ?_, ?_, ?_⟩
          · have hf := (HI3.out.fin (.string nv) (.slice ua k un) (.slice uwa j uwn)).1
            exact Rd44.mono (Rd44.span (Rd44.span (Own44.rd HO.out) HSP.out) (hf.mono (Nat.le_refl _) hss)) (by omega) (Nat.le_trans hss hf.size)
          · have hf := (HI3.out.fin (.string nv) (.slice ua k un) (.slice uwa j uwn)).1
            exact Rd4.mono (Rd4.span (Own4.rd HO3.out (Nat.le_refl _)) (hf.mono (by omega) (Nat.le_refl _))) (by omega) hf.size
          · exact (HI3.out.fin (.string nv) (.slice ua k un) (.slice uwa j uwn)).2

end Go.Proofs.Ytokfiflflcfidab
