import Derived.Test.YtokfiflflcfidaaRows
import Derived.Test.YtokfiflflcfidaaPlain
import Derived.Test.YtokfiflflcfidaaMem
import Derived.Test.YtokfiflflcfidaaEvMem
import Derived.Test.YtokfiflflcfidaaMachM
import Derived.Test.YtokfiflflcfidaaStM
import Derived.Test.YtokfiflflcfidaaMachW
import Derived.Test.YtokfiflflcfidaaMachB
import Derived.Test.YtokfiflflcfidaaMachX
import Derived.Test.YtokfiflflcfidaaMachY
import Derived.Test.YtokfiflflcfidaaMachZ
import Derived.WalkKit
import Derived.WalkSpells
import Derived.WalkLawsBesides
import Derived.Deep.RegionLaw
import Derived.RegionTactic
import Derived.BigRegion
import Derived.Deep.QuietTactic
import Derived.BigQuiet
namespace Go.Proofs.Ytokfiflflcfidaa
open Go.RowKit


def zero16 : Array Value := Array.replicate 16 (.int .i64 0)
theorem zero16_size : zero16.size = 16 := by simp [zero16]
theorem zero16_at {c : Nat} (hc : c < 16) : zero16[c]? = some (.int .i64 0) := by simp [zero16, hc]
theorem Try.make16 (w : World) : (Instr.makeSlice 44 (.int .i64 16) (.int .i64 16)).run Try.prog w = .ok (.slice (some ⟨w.heap.size, 0, none⟩) 16 16) (w.alloc (.cells zero16 3)) := by kernel_rfl

/-- the cells of k fresh threads -/
def thCells (gr : Nat → Nat) (k : Nat) : List Value := (List.range k).flatMap fun j => [.int .i64 0, .slice (some ⟨gr j, 0, none⟩) 16 16, .slice none 0 0]
theorem thCells_succ (gr : Nat → Nat) (k : Nat) : thCells gr (k + 1) = thCells gr k ++ [.int .i64 0, .slice (some ⟨gr k, 0, none⟩) 16 16, .slice none 0 0] := by simp [thCells, List.range_succ]
theorem thCells_congr {gr gr' : Nat → Nat} {k : Nat} (h : ∀ j, j < k → gr j = gr' j) : thCells gr k = thCells gr' k := by
  induction k with
  | zero => rfl
  | succ k ih => rw [thCells_succ, thCells_succ, ih (fun j hj => h j (by omega)), h k (by omega)]
theorem thCells_length (gr : Nat → Nat) (k : Nat) : (thCells gr k).length = k * 3 := by
  induction k with
  | zero => rfl
  | succ k ih => rw [thCells_succ, List.length_append, ih]; simp; omega
theorem thCells_at (gr : Nat → Nat) {k j i : Nat} (hj : j < k) (hi : i < 3) : (thCells gr k)[j * 3 + i]? = [Value.int .i64 0, .slice (some ⟨gr j, 0, none⟩) 16 16, .slice none 0 0][i]? := by
  induction k with
  | zero => omega
  | succ k ih =>
    rw [thCells_succ]
    by_cases hjk : j < k
    · rw [List.getElem?_append_left (by rw [thCells_length]; omega)]; exact ih hjk
    · have : j = k := by omega
      subst this
      rw [List.getElem?_append_right (by rw [thCells_length]; omega), thCells_length]
      congr 1
      omega
theorem own_slice {w : World} {base e size n : Nat} {v : Value} {xs : List Value} (h : w.ownsRow base e size v (n + 1) xs) : ∃ g cap, v = .slice (some ⟨g, 0, none⟩) (n + 1) cap := by
  rcases h.2 with ⟨_, h0⟩ | ⟨g, cap, cur, rfl, _⟩
  · omega
  · exact ⟨g, cap, rfl⟩

/-- a machine under way: k threads laid -/
structure StInv (w wr : World) (cv : Value) (model k : Nat) (v : Value) (gr : Nat → Nat) : Prop where
  below : Below w.heap.size w wr
  big : w.heap.size + 3 ≤ wr.heap.size
  box : wr.cell? ⟨w.heap.size, 1, none⟩ = some cv
  hM : wr.heap[w.heap.size + 2]? = some (.cells #[cv, .int .i64 (model : Int), .slice (some ⟨w.heap.size + 1, 0, none⟩) 16 16, v] 82 (0, 0))
  hm : wr.heap[w.heap.size + 1]? = some (.cells zero16 3 (0, 0))
  own : wr.ownsRow (w.heap.size + 3) 84 3 v k (thCells gr k)
  hr : ∀ j, j < k → w.heap.size + 3 ≤ gr j ∧ wr.heap[gr j]? = some (.cells zero16 3 (0, 0))
  dist : ∀ i j, i < k → j < k → i ≠ j → gr i ≠ gr j

theorem StInv.step {w wr : World} {cv : Value} {model k : Nat} {v : Value} {gr : Nat → Nat} (h : StInv w wr cv model k v gr) (o : Obj) (v' : Value) (w4 : World)
    (hown : w4.ownsRow (w.heap.size + 3) 84 3 v' (k + 1) (thCells gr k ++ [.int .i64 0, .slice (some ⟨wr.heap.size, 0, none⟩) 16 16, .slice none 0 0]))
    (hg : (((wr.alloc (.cells zero16 3)).alloc o).drewN 1).grownBy w4 v.ownBlock) (hne : ∀ b, v.ownBlock = some b → w.heap.size + 3 ≤ b ∧ ∃ cur, wr.heap[b]? = some (.cells cur 84 (0, 0))) :
    w4.cell? ⟨w.heap.size + 2, 3, none⟩ = some v ∧ w4.frozen? ⟨w.heap.size + 2, 3, none⟩ = false ∧ ∀ m, StInv w ((w4.setCell ⟨w.heap.size + 2, 3, none⟩ v').drewN m) cv model (k + 1) v' (updN gr k wr.heap.size) := by
  have hb1 : Below wr.heap.size wr (((wr.alloc (.cells zero16 3)).alloc o).drewN 1) := below_drewN (((Below.refl _ _).alloc (Nat.le_refl _) _).alloc (by simp) _) 1
  have hsz : (((wr.alloc (.cells zero16 3)).alloc o).drewN 1).heap.size = wr.heap.size + 2 := by simp
  have keep : ∀ b, b < wr.heap.size → v.ownBlock ≠ some b → w4.heap[b]? = wr.heap[b]? := fun b hb hn => (hg.block b (by omega) (fun e => hn e.symm)).trans (hb1.block b hb)
  have hbig := h.big
  have hMo : v.ownBlock ≠ some (w.heap.size + 2) := fun e => by have := (hne _ e).1; omega
  have hmo : v.ownBlock ≠ some (w.heap.size + 1) := fun e => by have := (hne _ e).1; omega
  have hBo : v.ownBlock ≠ some w.heap.size := fun e => by have := (hne _ e).1; omega
  have kM : w4.heap[w.heap.size + 2]? = some (.cells #[cv, .int .i64 (model : Int), .slice (some ⟨w.heap.size + 1, 0, none⟩) 16 16, v] 82 (0, 0)) := (keep _ (by omega) hMo).trans h.hM
  have kR : w4.heap[wr.heap.size]? = some (.cells zero16 3 (0, 0)) := by
    rw [hg.block wr.heap.size (by omega) (fun e => by
      obtain ⟨cur, hcur⟩ := (hne _ e.symm).2
      have := (Array.getElem?_eq_some_iff.1 hcur).1
      omega)]
    have e1 : (((wr.alloc (.cells zero16 3)).alloc o).drewN 1).heap[wr.heap.size]? = (wr.alloc (.cells zero16 3)).heap[wr.heap.size]? := Below.heap_alloc _ o _ (by simp)
    rw [e1]
    exact heap_alloc_new wr _
  have hro : ∀ j, j < k → v.ownBlock ≠ some (gr j) := fun j hj e => by
    obtain ⟨cur, hcur⟩ := (hne _ e).2
    rw [(h.hr j hj).2] at hcur
    simp at hcur
  have hsz4 : w4.heap.size ≥ wr.heap.size + 2 := by have := hg.size; omega
  refine ⟨?_, frozen_of_row _ _ _ _ _ kM, fun m => ?_⟩
  · rw [cell_of_row w4 _ 3 _ _ _ kM]; rfl
  have setk : ∀ b, b ≠ w.heap.size + 2 → ((w4.setCell ⟨w.heap.size + 2, 3, none⟩ v').drewN m).heap[b]? = w4.heap[b]? := fun b hb => Below.heap_setCell w4 ⟨w.heap.size + 2, 3, none⟩ v' b hb
  have hgrk : ∀ j, j < k → gr j < wr.heap.size := fun j hj => (Array.getElem?_eq_some_iff.1 (h.hr j hj).2).1
  exact {
    below := below_drewN ((h.below.trans ⟨hg.os.trans hb1.os, hg.tape.trans hb1.tape, hg.output.trans hb1.output, by omega, fun b hb => keep b (by omega) (fun e => by have := (hne _ e).1; omega)⟩).setCell (p := ⟨w.heap.size + 2, 3, none⟩) (by simp) v') m
    big := by show _ ≤ (w4.setCell _ _).heap.size; simp; omega
    box := by
      have e1 : ((w4.setCell ⟨w.heap.size + 2, 3, none⟩ v').drewN m).cell? ⟨w.heap.size, 1, none⟩ = w4.cell? ⟨w.heap.size, 1, none⟩ := World.cell?_of_block (setk w.heap.size (by omega))
      rw [e1, World.cell?_of_block (keep w.heap.size (by omega) hBo)]
      exact h.box
    hM := by
      have := heap_setCell_same w4 (w.heap.size + 2) 3 _ _ v' kM
      exact this
    hm := by rw [setk _ (by omega), keep _ (by omega) hmo]; exact h.hm
    own := by
      have e1 : thCells (updN gr k wr.heap.size) (k + 1) = thCells gr k ++ [.int .i64 0, .slice (some ⟨wr.heap.size, 0, none⟩) 16 16, .slice none 0 0] := by
        rw [thCells_succ, updN_same, thCells_congr (fun j hj => updN_other gr wr.heap.size (by omega))]
      rw [e1]
      refine ⟨hown.1, ?_⟩
      rcases hown.2 with ⟨_, h0⟩ | ⟨g, cap, cur, e, g1, g2, g3⟩
      · omega
      · refine Or.inr ⟨g, cap, cur, e, g1, ?_, g3⟩
        rw [setk g (by omega)]
        exact g2
    hr := fun j hj => by
      by_cases hjk : j = k
      · subst hjk
        rw [updN_same, setk _ (by omega)]
        exact ⟨by omega, kR⟩
      · have hj' : j < k := by omega
        have h1 := (h.hr j hj').1
        rw [updN_other _ _ hjk, setk _ (by omega), keep _ (hgrk j hj') (hro j hj')]
        exact h.hr j hj'
    dist := fun i j hi hj hij => by
      by_cases hik : i = k
      · subst hik
        rw [updN_same, updN_other _ _ (Ne.symm hij)]
        have := hgrk j (by omega)
        omega
      · by_cases hjk : j = k
        · subst hjk
          rw [updN_same, updN_other _ _ hik]
          have := hgrk i (by omega)
          omega
        · rw [updN_other _ _ hik, updN_other _ _ hjk]
          exact h.dist i j (by omega) (by omega) hij }

theorem StInv.init (w : World) (nv wv cv : Value) (T model m : Nat) : StInv w ((((w.alloc (.cells #[nv, cv, wv] T)).alloc (.cells zero16 3)).alloc (.cells #[cv, .int .i64 (model : Int), .slice (some ⟨w.heap.size + 1, 0, none⟩) 16 16, .slice none 0 0] 82)).drewN m) cv model 0 (.slice none 0 0) (fun _ => 0) where
  below := below_drewN ((((Below.refl _ _).alloc (Nat.le_refl _) _).alloc (by simp) _).alloc (by simp; omega) _) m
  big := by simp
  box := by
    have e1 : ((((w.alloc (.cells #[nv, cv, wv] T)).alloc (.cells zero16 3)).alloc (.cells #[cv, .int .i64 (model : Int), .slice (some ⟨w.heap.size + 1, 0, none⟩) 16 16, .slice none 0 0] 82)).drewN m).heap[w.heap.size]? = some (.cells #[nv, cv, wv] T (0, 0)) :=
      (Below.heap_alloc _ _ _ (by simp; omega)).trans ((Below.heap_alloc _ _ _ (by simp)).trans (heap_alloc_new w _))
    rw [cell_of_row _ _ 1 _ _ _ e1]; rfl
  hM := by
    have := heap_alloc_new ((w.alloc (.cells #[nv, cv, wv] T)).alloc (.cells zero16 3)) (.cells #[cv, .int .i64 (model : Int), .slice (some ⟨w.heap.size + 1, 0, none⟩) 16 16, .slice none 0 0] 82)
    simp only [World.size_alloc] at this
    exact this
  hm := by
    have h1 := heap_alloc_new (w.alloc (.cells #[nv, cv, wv] T)) (.cells zero16 3)
    have h2 : (((w.alloc (.cells #[nv, cv, wv] T)).alloc (.cells zero16 3)).alloc (.cells #[cv, .int .i64 (model : Int), .slice (some ⟨w.heap.size + 1, 0, none⟩) 16 16, .slice none 0 0] 82)).heap[w.heap.size + 1]? = _ := Below.heap_alloc _ _ _ (by simp)
    simp only [World.size_alloc] at h1
    exact h2.trans h1
  own := World.ownsRow_nil _ _ _ _
  hr := fun j hj => by omega
  dist := fun i j hi => by omega

theorem StInv.mach {w wr : World} {cv : Value} {model : Nat} {v : Value} {gr : Nat → Nat} {code : List (List RIns)} (h : StInv w wr cv model code.length v gr) (h0 : 0 < code.length) : MachAt w wr (w.heap.size + 2) cv model code st0 := by
  have hown := h.own
  rcases hown.2 with ⟨_, h1⟩ | ⟨g, cap, cur, rfl, g1, g2, g3⟩
  · omega
  have hc : ∀ j i u, j < code.length → i < 3 → [Value.int .i64 0, .slice (some ⟨gr j, 0, none⟩) 16 16, .slice none 0 0][i]? = some u → wr.cell? ⟨g, j * 3 + i, none⟩ = some u := by
    intro j i u hj hi hu
    have := hown.cells (g := g) rfl (j * 3 + i) u ((thCells_at gr hj hi).trans hu)
    rw [addr_add, Nat.zero_add] at this
    exact this
  refine ⟨⟨w.heap.size + 2, w.heap.size + 1, g, cap, gr, fun _ => .slice none 0 0⟩, rfl, ?_, h.below, fun k hk => ⟨Nat.zero_le _, by simp [st0], Nat.zero_le _, fun i hi => by simp [st0] at hi⟩⟩
  exact {
    types := by decide
    bM := by simp
    bm := by simp
    bt := by simp; omega
    br := fun k hk => by have := (h.hr k hk).1; simp; omega
    bb := fun k b hk e => by simp [Value.ownBlock] at e
    kM := ⟨_, h.hM⟩
    km := ⟨_, h.hm⟩
    kt := ⟨_, g2⟩
    kr := fun k hk => ⟨_, (h.hr k hk).2⟩
    kb := fun k b hk e => by simp [Value.ownBlock] at e
    c0 := by rw [cell_of_row _ _ 0 _ _ _ h.hM]; rfl
    c1 := by rw [cell_of_row _ _ 1 _ _ _ h.hM]; rfl
    c2 := by rw [cell_of_row _ _ 2 _ _ _ h.hM]; rfl
    c3 := by rw [cell_of_row _ _ 3 _ _ _ h.hM]; rfl
    cm := fun c hc => by rw [cell_of_row _ _ c _ _ _ h.hm]; exact zero16_at hc
    t0 := fun k hk => hc k 0 _ hk (by omega) rfl
    t1 := fun k hk => hc k 1 _ hk (by omega) rfl
    t2 := fun k hk => hc k 2 _ hk (by omega) rfl
    cr := fun k r hk hr => by
      rw [cell_of_row _ _ r _ _ _ (h.hr k hk).2]
      have e : ((st0.th k).regs[r]?.getD 0 : Nat) = 0 := by
        show ((List.replicate 16 0)[r]?.getD 0) = 0
        rw [List.getElem?_replicate, if_pos hr]
        rfl
      rw [e]
      exact zero16_at hr
    cb := fun k hk => Or.inl ⟨rfl, rfl⟩
    dmr := fun k hk => by have := (h.hr k hk).1; simp; omega
    drr := h.dist
    dbb := fun k j b hk hj hkj e => by simp [Value.ownBlock] at e }

theorem Try.infoThread : (Try.prog.info? 84).map (fun i => (i.zero, i.size, i.bytes)) = some (some (.agg #[.int .i64 0, .slice none 0 0, .slice none 0 0]), 3, 56) := by kernel_rfl
theorem th_one (R : Nat) : ∀ u ∈ [Value.int .i64 0, .slice (some ⟨R, 0, none⟩) 16 16, .slice none 0 0], u.oneCell' = true := by
  intro u hu
  simp at hu
  rcases hu with rfl | rfl | rfl <;> rfl
theorem th_new (w : World) (T R n : Nat) (hn : w.heap.size = n) (m : Nat) (j : Nat) (u : Value) (h : [Value.int .i64 0, .slice (some ⟨R, 0, none⟩) 16 16, .slice none 0 0][j]? = some u) : ((w.alloc (.cells #[.int .i64 0, .slice (some ⟨R, 0, none⟩) 16 16, .slice none 0 0] T)).drewN m).cell? ((⟨n, 0, none⟩ : Addr).add j) = some u := by
  subst hn
  rw [addr_add]
  match j, h with
  | 0, h => simp at h; subst h; simp
  | 1, h => simp at h; subst h; simp
  | 2, h => simp at h; subst h; simp

set_option maxRecDepth 100000 in
set_option maxHeartbeats 800000 in
theorem start_any (code : List (List RIns)) (model : Nat) (nv : ByteArray) (cv : Value) (wa : Option Addr) (wl wc : Nat) (w : World) (hC : CodesRd w cv code) (hS : SndC code) :
    Calls Try.prog 36 #[.agg #[.string nv, cv, .slice wa wl wc], .int .i64 model] w fun r w' => ∃ M, r = .returned (.pointer (some ⟨M, 0, none⟩)) ∧ MachAt w w' M cv model code st0 := by
  have HC : Hid _ := hC
  obtain ⟨_, cb, co, cc, rfl, hcbl, hcc⟩ := hC
  clear hcc
  have hmk := Try.make16
  go_enter Try.func36, Try.ntmps36
  go_wp2
  go_region
  go_wp2
  go_loopw [6] (fun i wr => ∃ (k : Nat) (gr : Nat → Nat) (v : Value), k ≤ code.length ∧ i = .int .i64 k ∧ StInv w wr (.slice (some ⟨cb, co, none⟩) code.length cc) model k v gr) (fun i _ => code.length - (intOf i).toNat)
  case atStart =>
    exact ⟨0, fun _ => 0, .slice none 0 0, Nat.zero_le _, rfl, StInv.init w _ _ _ _ model 1⟩
  case round =>
    obtain ⟨k, gr, v, hk, rfl, hinv⟩ := hrel
    have hbox := hinv.box
    have hbig := hinv.big
    have c3 : wr.cell? ⟨w.heap.size + 1 + 1, 3, none⟩ = some v := by rw [cell_of_row wr _ 3 _ _ _ hinv.hM]; rfl
    have hMl : w.heap.size + 1 + 1 < wr.heap.size := by omega
    have hM2 : ¬ (w.heap.size + 1 + 1 = wr.heap.size) := by omega
    have hM3 : ¬ (w.heap.size + 1 = wr.heap.size) := by omega
    have hM4 : ¬ (w.heap.size = wr.heap.size) := by omega
    have hM5 : w.heap.size + 1 < wr.heap.size := by omega
    have hM6 : w.heap.size < wr.heap.size := by omega
    have hM7 : w.heap.size + 1 + 1 < wr.heap.size + 1 := by omega
    have hl16 := hS.2.1
    have HINV : Hid _ := hinv
    have hown := hinv.own
    have HNE : Hid (∀ b, v.ownBlock = some b → w.heap.size + 3 ≤ b ∧ ∃ cur, wr.heap[b]? = some (.cells cur 84 (0, 0))) := by
      intro b hb
      rcases hown.2 with ⟨rfl, _⟩ | ⟨g, cap, cur, rfl, g1, g2, _⟩
      · simp [Value.ownBlock] at hb
      · simp [Value.ownBlock] at hb
        subst hb
        exact ⟨g1, cur, g2⟩
    have HOWN : Hid (wr.ownsRow (w.heap.size + 3) 84 3 v k (thCells gr k)) := hown
    clear hinv hown
    by_cases hlt : k < code.length
    · obtain ⟨i0, hi, hz0, hz1, hz2⟩ := info_parts Try.infoThread
      go_wp2
      go_region_law ((refine step_append_own rfl (.tmp 24) (.tmp 27) 80 rfl (w.heap.size + 3) 84 i0 _ 3 56 Try.underlying80 hi hz0 hz1 hz2 rfl (by decide) v k (thCells gr k) (by simp [Act.eval]) (by exact ((World.ownsRow.alloc (World.ownsRow.alloc HOWN.out _) _)).drew) ⟨wr.heap.size + 1, 0, none⟩ 1 1 [.int .i64 0, .slice (some ⟨wr.heap.size, 0, none⟩) 16 16, .slice none 0 0] (by simp [Act.eval]) rfl (by exact th_new (wr.alloc _) _ _ _ (by simp) 1) (th_one _) (by unfold maxLen; omega) (by omega) (by simp; omega) ?_; intro v' w4 hown3 hgr; obtain ⟨g', cap', hv'⟩ := own_slice hown3; subst hv'; obtain ⟨s1, s2, hnext⟩ := StInv.step HINV.out _ _ w4 hown3 hgr HNE.out; have s3 : w4.cell? ⟨w.heap.size + 1 + 1, 3, none⟩ = some v := s1; have s4 : w4.frozen? ⟨w.heap.size + 1 + 1, 3, none⟩ = false := s2; have HNX : Hid _ := hnext; clear hown3 hgr hnext s1 s2))
      all_goals go_wp2
      all_goals go_roundw
      all_goals first | exact ⟨k + 1, _, _, hlt, by go_num, HNX.out 0⟩ | (simp [intOf]; omega)
    · go_wp2
      go_ret
      have hke : k = code.length := by omega
      subst hke
      exact ⟨w.heap.size + 2, rfl, HINV.out.mach hS.1⟩

end Go.Proofs.Ytokfiflflcfidaa
